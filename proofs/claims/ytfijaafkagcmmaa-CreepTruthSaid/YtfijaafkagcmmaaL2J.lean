/- A list of lists of numbers as a value; what grows it. Conditions: the lengths. All rates of a material, as the reference lists them: its contract. Condition: the ranges of a valid material. -/
import Derived.Test.YtfijaafkagcmmaaI2J
import Derived.Test.YtfijaafkagcmmaaF6J
import Derived.Deep.CutRange
namespace Go.Proofs.Ytfijaafkagcmmaa
open Go.RowKit Go.Shelf
attribute [local irreducible] arrV wpQuiet

theorem list_info : ∃ i z, Try.prog.info? 26 = some i ∧ i.zero = some z ∧ i.size = 1 ∧ i.bytes = 24 ∧ z.cells.size = 1 := by
  have h1 : (Try.prog.info? 26).map (·.size) = some 1 := by kernel_rfl
  have h2 : (Try.prog.info? 26).map (·.bytes) = some 24 := by kernel_rfl
  have h3 : ((Try.prog.info? 26).bind (·.zero)).map (·.cells.size) = some 1 := by kernel_rfl
  cases h : Try.prog.info? 26 with
  | none => simp [h] at h1
  | some i =>
    simp [h] at h1 h2 h3
    obtain ⟨z, hz, hs⟩ := h3
    exact ⟨i, z, rfl, hz, h1, h2, hs⟩

/-- The value holds the numbers, in a row of its own. -/
def NumV (w : World) (v : Value) (L : List Int) : Prop := w.ownsRow 0 3 1 v L.length (L.map (Value.int .i64))
theorem NumV.nil (w : World) : NumV w (.slice none 0 0) [] := World.ownsRow_nil _ _ _ _
theorem NumV.form {w : World} {v : Value} {L : List Int} (h : NumV w v L) : ∃ sa cap, v = .slice sa L.length cap ∧ (sa = none → L.length = 0) ∧ ∀ ad, sa = some ad → ∃ g, ad = ⟨g, 0, none⟩ ∧ (∀ i, i < L.length → w.cell? ⟨g, 0 + i, none⟩ = some (.int .i64 (ld L i))) := by
  rcases h.2 with ⟨hv, h0⟩ | ⟨g, cap, cur, hv, _, hg, hn, _, hs, ht⟩
  · exact ⟨none, 0, by rw [hv, h0], fun _ => h0, fun _ e => by cases e⟩
  · refine ⟨some ⟨g, 0, none⟩, cap, hv, (fun e => by cases e), fun ad e => ⟨g, by cases e; rfl, fun i hi => ?_⟩⟩
    have h1 : (cur.toList.take (L.length * 1))[i]? = (L.map (Value.int .i64))[i]? := by rw [ht]
    rw [List.getElem?_take_of_lt (by omega)] at h1
    rw [cell_of_row w g (0 + i) _ _ _ hg, Nat.zero_add]
    rw [← Array.getElem?_toList, h1]
    simp [ld, hi]
theorem NumV.grown {w w' : World} {v : Value} {L : List Int} {row : Option Nat} (h : NumV w v L) (hg : w.grownBy w' row) (hr : ∀ g, row = some g → ∃ cs, w.heap[g]? = some (.cells cs 26 (0, 0))) : NumV w' v L := by
  refine World.ownsRow.kept h hg ?_
  rcases h.2 with ⟨hv, h0⟩ | ⟨g, cap, cur, hv, _, hgg, _⟩
  · rw [hv]; exact .inl rfl
  · refine .inr fun e => ?_
    rw [hv] at e
    obtain ⟨cs, hcs⟩ := hr g e.symm
    rw [hgg] at hcs
    cases hcs
theorem grown_below {w w' : World} (h : Below w.heap.size w w') : w.grownBy w' none := ⟨h.os, h.tape, h.output, h.size, fun k hk _ => h.block k hk⟩
theorem NumV.below {w w' : World} {v : Value} {L : List Int} (h : NumV w v L) (hb : Below w.heap.size w w') : NumV w' v L := h.grown (grown_below hb) (fun _ e => by cases e)

/-- The values hold the lists, one each. -/
def RowsV (w : World) : List Value → List (List Int) → Prop
  | [], [] => True
  | v :: vs, L :: LL => NumV w v L ∧ RowsV w vs LL
  | _, _ => False
theorem RowsV.mono {w w' : World} (h : ∀ v L, NumV w v L → NumV w' v L) : ∀ {vs : List Value} {LL : List (List Int)}, RowsV w vs LL → RowsV w' vs LL
  | [], [], _ => trivial
  | v :: vs, L :: LL, ⟨h1, h2⟩ => ⟨h v L h1, RowsV.mono h h2⟩
  | _ :: _, [], h' => h'.elim
  | [], _ :: _, h' => h'.elim
theorem RowsV.len {w : World} : ∀ {vs : List Value} {LL : List (List Int)}, RowsV w vs LL → vs.length = LL.length
  | [], [], _ => rfl
  | v :: vs, L :: LL, ⟨_, h2⟩ => by simp [RowsV.len h2]
  | _ :: _, [], h' => h'.elim
  | [], _ :: _, h' => h'.elim
theorem RowsV.app {w : World} {ys : List Value} {MM : List (List Int)} (h' : RowsV w ys MM) : ∀ {vs : List Value} {LL : List (List Int)}, RowsV w vs LL → RowsV w (vs ++ ys) (LL ++ MM)
  | [], [], _ => h'
  | v :: vs, L :: LL, ⟨h1, h2⟩ => ⟨h1, RowsV.app h' h2⟩
  | _ :: _, [], h' => h'.elim
  | [], _ :: _, h' => h'.elim
theorem RowsV.get {w : World} : ∀ {vs : List Value} {LL : List (List Int)} {i : Nat} {L : List Int}, RowsV w vs LL → LL[i]? = some L → ∃ v, vs[i]? = some v ∧ NumV w v L
  | [], [], i, L, _, h => by simp at h
  | v :: vs, M :: LL, 0, L, ⟨h1, h2⟩, h => by
    simp at h
    subst h
    exact ⟨v, rfl, h1⟩
  | v :: vs, M :: LL, i + 1, L, ⟨h1, h2⟩, h => by
    simp at h
    obtain ⟨u, hu, hv⟩ := RowsV.get h2 h
    exact ⟨u, by simpa using hu, hv⟩
  | _ :: _, [], _, _, h', _ => h'.elim
  | [], _ :: _, _, _, h', _ => h'.elim
theorem RowsV.below {w w' : World} {vs : List Value} {LL : List (List Int)} (h : RowsV w vs LL) (hb : Below w.heap.size w w') : RowsV w' vs LL := h.mono fun _ _ h => h.below hb

/-- The value is a list of lists. -/
structure ListsV (base : Nat) (w : World) (v : Value) (LL : List (List Int)) : Prop where
  is : ∃ xs, w.ownsRow base 26 1 v LL.length xs ∧ RowsV w xs LL
theorem ListsV.nil (base : Nat) (w : World) : ListsV base w (.slice none 0 0) [] := ⟨[], World.ownsRow_nil _ _ _ _, trivial⟩
theorem ListsV.below {base : Nat} {w w' : World} {v : Value} {LL : List (List Int)} (h : ListsV base w v LL) (hb : Below w.heap.size w w') : ListsV base w' v LL := by
  obtain ⟨xs, h1, h2⟩ := h.is
  exact ⟨xs, h1.kept (row := none) (grown_below hb) (by cases e : v.ownBlock <;> simp), h2.below hb⟩
theorem ListsV.mono {base base' : Nat} {w : World} {v : Value} {LL : List (List Int)} (h : ListsV base w v LL) (hb : base' ≤ base) : ListsV base' w v LL := by
  obtain ⟨xs, ⟨h0, h1⟩, h2⟩ := h.is
  refine ⟨xs, ⟨h0, ?_⟩, h2⟩
  rcases h1 with h | ⟨g, cap, cur, hv, hbg, rest⟩
  · exact .inl h
  · exact .inr ⟨g, cap, cur, hv, by omega, rest⟩
theorem ListsV.form {base : Nat} {w : World} {v : Value} {LL : List (List Int)} (h : ListsV base w v LL) : ∃ sa cap, v = .slice sa LL.length cap ∧ LL.length ≤ maxLen ∧ ∀ i L, LL[i]? = some L → ∃ g u, sa = some ⟨g, 0, none⟩ ∧ w.cell? ⟨g, i, none⟩ = some u ∧ NumV w u L := by
  obtain ⟨xs, ⟨h0, h1⟩, h2⟩ := h.is
  rcases h1 with ⟨hv, h0⟩ | ⟨g, cap, cur, hv, _, hg, hn, hc, hs, ht⟩
  · refine ⟨none, 0, by rw [hv, h0], by simp [h0], fun i L hL => ?_⟩
    have := (List.getElem?_eq_some_iff.1 hL).1
    omega
  · refine ⟨some ⟨g, 0, none⟩, cap, hv, by omega, fun i L hL => ?_⟩
    obtain ⟨u, hu, hN⟩ := h2.get hL
    have hi := (List.getElem?_eq_some_iff.1 hL).1
    refine ⟨g, u, rfl, ?_, hN⟩
    have h1 : (cur.toList.take (LL.length * 1))[i]? = xs[i]? := by rw [ht]
    rw [List.getElem?_take_of_lt (by omega)] at h1
    rw [cell_of_row w g i _ _ _ hg, ← Array.getElem?_toList, h1, hu]

theorem NumV.one {w : World} {v : Value} {L : List Int} (h : NumV w v L) : v.oneCell' = true := by
  obtain ⟨sa, cap, rfl, _⟩ := h.form
  rfl
theorem RowsV.one {w : World} : ∀ {vs : List Value} {LL : List (List Int)}, RowsV w vs LL → ∀ u ∈ vs, u.oneCell' = true
  | [], [], _ => by simp
  | v :: vs, L :: LL, ⟨h1, h2⟩ => fun u hu => by
    rcases List.mem_cons.1 hu with rfl | hu
    · exact h1.one
    · exact RowsV.one h2 u hu
  | _ :: _, [], h' => h'.elim
  | [], _ :: _, h' => h'.elim

/-- A list of lists grows by another one, which may be empty. -/
theorem append_lists (base ty : Nat) (v1 v2 : Value) (A B : List (List Int)) (W : World) (h1 : ListsV base W v1 A) (h2 : ListsV 0 W v2 B) (hn : A.length + B.length ≤ 1048576) (hb : base ≤ W.heap.size) :
    ∃ v' w', (Builtin.append_ #[47, 47] ty #[v1, v2]).run Try.prog W = .ok v' w' ∧ ListsV base w' v' (A ++ B) ∧ W.grownBy w' v1.ownBlock ∧ (∀ k, v1.ownBlock = some k → base ≤ k) := by
  obtain ⟨i, z, hi, hz, hsz, hby, hzs⟩ := list_info
  obtain ⟨xs, o1, r1⟩ := h1.is
  obtain ⟨ys, o2, r2⟩ := h2.is
  have hlen := r2.len
  obtain ⟨hy0, hy1⟩ := o2
  rcases hy1 with ⟨rfl, h0⟩ | ⟨g, cap, cur, rfl, _, hg, hcn, hcm, hs, ht⟩
  · have hB : B = [] := List.eq_nil_of_length_eq_zero h0
    subst hB
    exact ⟨v1, W, run_append_owned_none (P := Try.prog) W base 47 ty 26 i 1 Try.underlying47 hi v1 A.length xs o1, by simpa using h1, ⟨rfl, rfl, rfl, Nat.le_refl _, fun _ _ _ => rfl⟩, fun k hk => (o1.lt k hk).1⟩
  obtain ⟨v', w', hr, q1, q2, _, q3⟩ := run_append_own_at (P := Try.prog) W base 47 ty 26 i z 1 24 Try.underlying47 hi hz hsz hby hzs (by omega) v1 A.length xs o1 ⟨g, 0, none⟩ B.length cap ys (by omega)
    (fun j u hj => by
      rw [Addr.add_lit, Nat.zero_add, cell_of_row W g j _ _ _ hg, ← Array.getElem?_toList]
      have h1 : (cur.toList.take (B.length * 1))[j]? = ys[j]? := by rw [ht]
      have hjl := (List.getElem?_eq_some_iff.1 hj).1
      rw [List.getElem?_take_of_lt (by omega)] at h1
      rw [h1, hj]) r2.one (by simp [maxLen]; omega) (by omega) hb
  have hrow : ∀ g, v1.ownBlock = some g → ∃ cs, W.heap[g]? = some (.cells cs 26 (0, 0)) := fun g hgv => by
    rcases o1.2 with ⟨hv, _⟩ | ⟨g', _, cur, hv, _, hgg, _⟩
    · rw [hv] at hgv; simp [Value.ownBlock] at hgv
    · rw [hv] at hgv
      simp only [Value.ownBlock, Option.some.injEq] at hgv
      subst hgv
      exact ⟨cur, hgg⟩
  refine ⟨v', w', hr, ⟨_, by rw [List.length_append]; exact q1, ?_⟩, q2, fun k hk => (o1.lt k hk).1⟩
  exact (r2.mono fun _ _ h => h.grown q2 hrow).app (r1.mono fun _ _ h => h.grown q2 hrow)

/-- A list of numbers is put behind an empty row of one's own. -/
theorem append_nums (base g ty : Nat) (bv : Value) (L : List Int) (W : World) (h : NumV W bv L) (hn : L.length ≤ 1048576) (hb : base ≤ W.heap.size) (hg : base ≤ g) (hrow : W.heap[g]? = some (.cells #[] 3 (0, 0))) :
    ∃ v' w', (Builtin.append_ #[26, 26] ty #[.slice (some ⟨g, 0, none⟩) 0 0, bv]).run Try.prog W = .ok v' w' ∧ w'.ownsRow base 3 1 v' L.length (L.map (Value.int .i64)) ∧ W.grownBy w' (some g) ∧ (v'.ownBlock = some g ∨ v'.ownBlock = some W.heap.size) := by
  obtain ⟨i, z, hi, hz, hsz, hby, hzs⟩ := el26.i
  have hown : W.ownsRow base 3 1 (.slice (some ⟨g, 0, none⟩) 0 0) 0 [] := ⟨rfl, .inr ⟨g, 0, #[], rfl, hg, hrow, Nat.le_refl _, Nat.zero_le _, rfl, rfl⟩⟩
  obtain ⟨sa, cap, rfl, h0, h1⟩ := h.form
  cases sa with
  | none =>
    have hl := h0 rfl
    obtain rfl := List.eq_nil_of_length_eq_zero hl
    refine ⟨_, W, ?_, hown, ⟨rfl, rfl, rfl, Nat.le_refl _, fun _ _ _ => rfl⟩, .inl rfl⟩
    simp [Builtin.append_, run_underlying Try.underlying26, sizeOf, typeInfo, hi, Builtin.lenOf, run_firstCells_none, storeCells, Result.andThen]
  | some ad =>
    obtain ⟨g2, rfl, hI⟩ := h1 ad rfl
    obtain ⟨v', w', hr, q1, q2, _, q3⟩ := run_append_own_at (P := Try.prog) W base 26 ty 3 i z 1 8 Try.underlying26 hi hz hsz hby hzs (by omega) _ 0 [] hown ⟨g2, 0, none⟩ L.length cap (L.map (Value.int .i64)) (by simp)
      (fun j u hj => by
        have hjl := (List.getElem?_eq_some_iff.1 hj).1
        rw [List.length_map] at hjl
        rw [Addr.add_lit]
        rw [hI j hjl]
        simp at hj
        obtain ⟨y, hy, rfl⟩ := hj
        simp [ld, hy]) (by
        intro u hu
        obtain ⟨y, _, rfl⟩ := List.mem_map.1 hu
        rfl) (by simp [maxLen]; omega) (by omega) hb
    exact ⟨v', w', hr, by simpa using q1, q2, q3⟩

/-- One number more; where the slice lies then. -/
theorem append_one3 (W : World) (base n ty : Nat) (v : Value) (xs : List Value) (x : Int) (ab : Nat) (hown : W.ownsRow base 3 1 v n xs) (hb : base ≤ W.heap.size) (ha : W.heap[ab]? = some (.cells #[.int .i64 x] 3 (0, 0))) (hn : n ≤ 1048576) :
    ∃ g cap w', (Builtin.append_ #[26, 26] ty #[v, .slice (some ⟨ab, 0, none⟩) 1 1]).run Try.prog W = .ok (.slice (some ⟨g, 0, none⟩) (n + 1) cap) w' ∧ w'.ownsRow base 3 1 (.slice (some ⟨g, 0, none⟩) (n + 1) cap) (n + 1) (xs ++ [.int .i64 x]) ∧
      W.grownBy w' v.ownBlock ∧ (v.ownBlock = some g ∨ g = W.heap.size) ∧ g < w'.heap.size := by
  obtain ⟨i, z, hi, hz, hsz, hby, hzs⟩ := el26.i
  exact run_append_lies (P := Try.prog) W 26 ty base 3 i z 1 8 Try.underlying26 hi hz hsz hby hzs (by omega) v n xs hown ⟨ab, 0, none⟩ 1 1 [.int .i64 x] rfl
    (fun j u hj => by
      rw [Addr.add_lit, Nat.zero_add, cell_of_row W ab j _ _ _ ha]
      simpa using hj)
    (by simp [Value.oneCell']) (by omega) (by simp [maxLen]; omega) (by omega) hb _ rfl

theorem NumV.ints {w : World} {v : Value} {L : List Int} (h : NumV w v L) (h0 : 0 < L.length) : IntsV w.heap.size w v L := by
  refine own_ints (base := 0) ?_ h0
  exact h
end Go.Proofs.Ytfijaafkagcmmaa
namespace Go.Proofs.Ytfijaafkagcmmaa
open Go.RowKit Go.Shelf
attribute [local irreducible] arrV wpQuiet

def last0 (b : List Int) : Int := (b.getLast?).getD 0
/-- All rates that begin so. -/
def restL (ms : List Rg) (b : List Int) : List (List Int) := (listsL (ms.drop b.length) (last0 b)).map (b ++ ·)
theorem restL_zero {ms : List Rg} {b : List Int} (h : b.length = ms.length) : restL ms b = [b] := by
  unfold restL
  rw [h, List.drop_length]
  simp [listsL]
theorem last0_snoc (b : List Int) (n : Int) : last0 (b ++ [n]) = n := by simp [last0]
theorem restL_succ {ms : List Rg} {b : List Int} (h : b.length < ms.length) : restL ms b = (upFrom (max (last0 b) (rg ms b.length).lo) (rg ms b.length).hi).flatMap fun n => restL ms (b ++ [n]) := by
  unfold restL
  have e : rg ms b.length = ms[b.length] := by simp [rg, h]
  rw [List.drop_eq_getElem_cons h, e]
  simp only [listsL, List.map_flatMap, List.length_append, List.length_cons, List.length_nil, last0_snoc, List.map_map]
  congr 1
  funext n
  congr 1
  funext x
  simp
theorem restL_nil (ms : List Rg) : restL ms [] = allL ms := by
  simp [restL, allL, last0]
theorem upFrom_len (lo hi : Int) : (upFrom lo hi).length = (hi + 1 - lo).toNat := by simp [upFrom]
theorem upFrom_take {lo hi : Int} {q : Nat} (h : (q : Int) < hi - lo + 1) : (upFrom lo hi).take (q + 1) = (upFrom lo hi).take q ++ [lo + q] := by
  rw [List.take_add_one]
  congr 1
  have hl : q < (hi + 1 - lo).toNat := by omega
  simp [upFrom, hl]
theorem take_flat {lo hi : Int} {q : Nat} (h : (q : Int) < hi - lo + 1) (f : Int → List (List Int)) : ((upFrom lo hi).take (q + 1)).flatMap f = ((upFrom lo hi).take q).flatMap f ++ f (lo + q) := by
  rw [upFrom_take h, List.flatMap_append]
  simp
theorem take_flat_le {lo hi : Int} {q : Nat} (h : (q : Int) < hi - lo + 1) (f : Int → List (List Int)) : (((upFrom lo hi).take q).flatMap f).length + (f (lo + q)).length ≤ ((upFrom lo hi).flatMap f).length := by
  have e := take_flat h f
  have h2 : ((upFrom lo hi).flatMap f) = (((upFrom lo hi).take (q + 1)).flatMap f) ++ (((upFrom lo hi).drop (q + 1)).flatMap f) := by
    rw [← List.flatMap_append, List.take_append_drop]
  rw [h2, e]
  simp only [List.length_append]
  omega
theorem flat_le {α : Type} (f : α → List (List Int)) (c : Nat) : ∀ (l : List α), (∀ a, a ∈ l → (f a).length ≤ c) → (l.flatMap f).length ≤ l.length * c
  | [], _ => by simp
  | a :: l, h => by
    have h1 := h a (by simp)
    have h2 := flat_le f c l (fun b hb => h b (by simp [hb]))
    simp only [List.flatMap_cons, List.length_append, List.length_cons, Nat.add_mul]
    omega
theorem lists_many : ∀ {ms : List Rg} {l : Int}, (∀ r, r ∈ ms → r.hi - r.lo ≤ 20) → (listsL ms l).length ≤ 21 ^ ms.length
  | [], _, _ => by simp [listsL]
  | r :: ms, l, h => by
    have h1 := h r (by simp)
    have h2 := flat_le (fun n => (listsL ms n).map (n :: ·)) (21 ^ ms.length) (upFrom (max l r.lo) r.hi) (fun n _ => by
      rw [List.length_map]
      exact lists_many (fun q hq => h q (by simp [hq])))
    have h3 : (upFrom (max l r.lo) r.hi).length ≤ 21 := by rw [upFrom_len]; omega
    show ((upFrom (max l r.lo) r.hi).flatMap fun n => (listsL ms n).map (n :: ·)).length ≤ 21 ^ (ms.length + 1)
    have h4 := Nat.mul_le_mul_right (21 ^ ms.length) h3
    rw [Nat.pow_succ, Nat.mul_comm (21 ^ ms.length) 21]
    exact Nat.le_trans h2 h4
theorem rest_len {ms : List Rg} (hm : RgsOk ms) (b : List Int) : (restL ms b).length ≤ 9261 := by
  unfold restL
  rw [List.length_map]
  have h1 := lists_many (ms := ms.drop b.length) (l := last0 b) (fun r hr => (hm.rg r (List.mem_of_mem_drop hr)).2.2.2)
  have h2 : (ms.drop b.length).length ≤ 3 := by have := hm.len; rw [List.length_drop]; omega
  have h3 : 21 ^ (ms.drop b.length).length ≤ 21 ^ 3 := Nat.pow_le_pow_right (by decide) h2
  have h4 : (21 : Nat) ^ 3 = 9261 := by decide
  omega

def Lists1 (w : World) (LL : List (List Int)) (e : Ending) (w' : World) : Prop := ∃ v, e = .returned v ∧ ListsV w.heap.size w' v LL ∧ Below w.heap.size w w'

theorem ListsV.one {w : World} {v : Value} {L : List Int} (cs : Obj) (h : NumV w v L) : ListsV w.heap.size ((w.alloc cs).alloc (.cells #[v] 26)) (.slice (some ⟨w.heap.size + 1, 0, none⟩) 1 1) [L] := by
  have hb := below2 w cs (.cells #[v] 26)
  obtain ⟨-, hx⟩ := box2 w cs (.cells #[v] 26)
  exact ⟨[v], ⟨rfl, .inr ⟨w.heap.size + 1, 1, #[v], rfl, by omega, hx, Nat.le_refl _, by simp [maxLen], rfl, rfl⟩⟩, h.below hb, trivial⟩

set_option maxRecDepth 100000 in
set_option maxHeartbeats 4000000 in
theorem Lists_zero (am : Option Addr) (capm : Nat) (ms : List Rg) (bs : List Int) (bv : Value) (w : World) (hk : bs.length = ms.length) (h : NumV w bv bs) :
    Calls Try.prog 39 #[.agg #[.slice am ms.length capm], bv] w (Lists1 w (restL ms bs)) := by
  rw [restL_zero hk]
  obtain ⟨sa, cp, rfl, -⟩ := h.form
  have H := Lib.hid h
  clear h
  have HX := Lib.hid (ListsV.one (.cells #[.slice am ms.length capm] 24) H.out)
  rw [hk] at *
  have hb2 := below2 w (.cells #[.slice am ms.length capm] 24) (.cells #[.slice sa ms.length cp] 26)
  have HB := Lib.hid hb2
  clear hb2 hk
  have hbu : Try.prog.builtSlice 26 1 [(0, .slice sa ms.length cp)] = some #[.slice sa ms.length cp] := by kernel_rfl
  go_enter Try.func39, Try.ntmps39
  go_wp2
  go_ret
  exact ⟨_, rfl, HX.out, HB.out⟩

set_option maxRecDepth 100000 in
set_option maxHeartbeats 4000000 in
theorem Lists_succ (n0 k : Nat) (am : Option Addr) (capm : Nat) (ms : List Rg) (bs : List Int) (bv : Value) (w : World) (hm0 : RgsOk ms) (hk : bs.length + (k + 1) = ms.length) (h : NumV w bv bs) (hbn : ∀ i, i < bs.length → 0 ≤ ld bs i ∧ ld bs i ≤ 1000)
    (hV : RgsV n0 w (.slice am ms.length capm) ms) (hn0 : n0 ≤ w.heap.size)
    (IH : ∀ (cs : List Int) (cv : Value) (W : World), cs.length + k = ms.length → NumV W cv cs → (∀ i, i < cs.length → 0 ≤ ld cs i ∧ ld cs i ≤ 1000) → RgsV n0 W (.slice am ms.length capm) ms → n0 ≤ W.heap.size → Calls Try.prog 39 #[.agg #[.slice am ms.length capm], cv] W (Lists1 W (restL ms cs))) :
    Calls Try.prog 39 #[.agg #[.slice am ms.length capm], bv] w (Lists1 w (restL ms bs)) := by
  have hm : bs.length < ms.length := by omega
  obtain ⟨hl0, hl1, hl2, hl3⟩ := hm0.rg _ (rg_mem hm)
  have hlen3 := hm0.len
  have HIH := Lib.hid fun (n : Int) (cv : Value) (W : World) (h1 : NumV W cv (bs ++ [n])) (h2 : 0 ≤ n ∧ n ≤ 1000) (h3 : Below w.heap.size w W) => IH (bs ++ [n]) cv W (by simp; omega) h1 (fun i hi => by
    by_cases hib : i < bs.length
    · have := hbn i hib
      have e : ld (bs ++ [n]) i = ld bs i := by simp [ld, List.getElem?_append_left hib]
      rw [e]; exact this
    · have e : ld (bs ++ [n]) i = n := by
        have : i = bs.length := by simp at hi; omega
        subst this
        simp [ld]
      rw [e]; exact h2) (hV.same (.below hn0 h3)) (Nat.le_trans hn0 h3.size)
  obtain ⟨a', c', e, hp⟩ := hV
  cases e
  obtain ⟨b, off, rfl, hb, hc⟩ := hp (by omega)
  obtain ⟨hc1, hc2⟩ := hc bs.length hm
  have hltb : b < w.heap.size := by omega
  have hb1 := box_below w (.cells #[.slice (some ⟨b, off, none⟩) ms.length capm] 24)
  have d1 := (hb1.cell (p := ⟨b, off + bs.length * 2, none⟩) hltb).trans hc1
  have d2 := (hb1.cell (p := ⟨b, off + bs.length * 2 + 1, none⟩) hltb).trans hc2
  clear hc1 hc2 hc hp hb
  have HALL : Hid (restL ms bs = (upFrom (max (last0 bs) (rg ms bs.length).lo) (rg ms bs.length).hi).flatMap fun n => restL ms (bs ++ [n])) := Lib.hid (restL_succ hm)
  have HLEN := Lib.hid (rest_len hm0 bs)
  rw [HALL.out] at HLEN ⊢
  have hformv := h.form
  obtain ⟨sa, cp, rfl, hsn, hsa⟩ := hformv
  have HV := Lib.hid h
  have HBN := Lib.hid (show bs.length ≤ 3 by omega)
  have hlast : bs.length = 0 → last0 bs = 0 := fun e => by rw [List.eq_nil_of_length_eq_zero e]; rfl
  have hlast2 : 0 < bs.length → last0 bs = ld bs (bs.length - 1) := fun e => by
    unfold last0 ld
    rw [List.getLast?_eq_getElem?]
  obtain ⟨lst, HLST⟩ : ∃ x, Hid (last0 bs = x) := ⟨_, Lib.hid rfl⟩
  rw [HLST.out] at hlast hlast2 HLEN ⊢
  have hlb : 0 ≤ lst ∧ lst ≤ 1000 := by
    rcases Nat.eq_zero_or_pos bs.length with e | e
    · rw [hlast e]; omega
    · rw [hlast2 e]; exact hbn _ (by omega)
  generalize (rg ms bs.length).lo = lo at *
  generalize (rg ms bs.length).hi = hi at *
  have HHI := Lib.hid (show 0 ≤ max lst lo ∧ max lst lo ≤ 1000 ∧ hi ≤ 1000 by omega)
  have hmi : ((bs.length : Int) == ms.length) = false := by rw [beq_eq_false_iff_ne]; omega
  have hmn : (bs.length == ms.length) = false := by rw [beq_eq_false_iff_ne]; omega
  have hmn2 : ¬ bs.length = ms.length := by omega
  have hmn3 : (bs.length : Int) < ms.length := by omega
  clear IH h hk HALL hbn
  generalize hmm : bs.length = m at *
  have HML := Lib.hid hmm
  have HBS := Lib.hid (show bs.length ≤ 1048576 by have := HBN.out; omega)
  clear hmm
  have hb2 := below2 w (.cells #[.slice (some ⟨b, off, none⟩) ms.length capm] 24) (.cells #[.int .i64 lo, .int .i64 hi] 60)
  obtain ⟨hx1, hx2⟩ := box2 w (.cells #[.slice (some ⟨b, off, none⟩) ms.length capm] 24) (.cells #[.int .i64 lo, .int .i64 hi] 60)
  cases Nat.eq_zero_or_pos m with
  | inl hl =>
    subst hl
    have e0 := hlast rfl
    subst e0
    have hmx : max 0 lo = lo := by omega
    rw [hmx] at HLEN HHI ⊢
    clear hlast hlast2 hmx hlb hsa hsn
    rw [Nat.zero_mul, Nat.add_zero] at d1 d2
    go_enter Try.func39, Try.ntmps39
    go_wp2
    generalize World.alloc (World.alloc w _) _ = W1 at *
    have HBW := Lib.hid hb2
    have HC : Hid (∀ w', Below W1.heap.size W1 w' → w'.cell? ⟨w.heap.size, 0, none⟩ = some (.slice (some ⟨b, off, none⟩) ms.length capm) ∧ w'.cell? ⟨w.heap.size + 1, 1, none⟩ = some (.int .i64 hi)) := Lib.hid fun w' h => by
      have y1 := (h.block _ (lt_of_block hx1)).trans hx1
      have y2 := (h.block _ (lt_of_block hx2)).trans hx2
      exact ⟨cell_of_row w' w.heap.size 0 _ _ _ y1, cell_of_row w' (w.heap.size + 1) 1 _ _ _ y2⟩
    clear hb2 hx1 hx2 d1 d2
    go_loopw [5, 9] (fun s i wr => ∃ q : Nat, q ≤ (hi + 1 - lo).toNat ∧ i = .int .i64 (lo + q) ∧ Hid (ListsV W1.heap.size wr s (((upFrom lo hi).take q).flatMap fun n => restL ms (bs ++ [n]))) ∧ Hid (Below W1.heap.size W1 wr)) (fun _ i _ => (hi + 1 - intOf i).toNat)
    case atStart => exact ⟨0, by omega, by simp, Lib.hid (by rw [List.take_zero]; exact ListsV.nil _ _), Lib.hid (Below.refl _ _)⟩
    case round =>
      obtain ⟨q, hq, rfl, HS5, HBr⟩ := hrel
      obtain ⟨d0, d1⟩ := HC.out wr HBr.out
      by_cases hlt : (q : Int) < hi - lo + 1
      · have hle : lo + (q : Int) ≤ hi := by omega
        have hle' : decide (lo + (q : Int) ≤ hi) = true := decide_eq_true hle
        go_wp2
        clear d0 d1 hle hle'
        refine wp_region_noPanic ?_
        refine wp_region_acts (fun w' => Below W1.heap.size W1 w') (fun _ _ h hb => grow_to h hb) (grow_to HBr.out (below_drawn _)) (by kernel_rfl) (fun _ _ _ _ _ h => h)
          [.take 0, .take 1, .take 3, .take 5, .float 6, .act 2, .act 4, .join, .act 7, .call 8] [9, 10] (by kernel_rfl) ?_
        iterate 4
          (refine GWalk.takes rfl rfl ?_; apply Exists.intro; refine ⟨fun w' hS => ?_, ?_⟩; (obtain ⟨d0, d1⟩ := HC.out w' hS; clear hS; go_simp; with_reducible rfl); simp only [List.getElem_toArray, List.getElem_cons_succ, List.getElem_cons_zero, Act.put, List.setIfInBounds_toArray, List.set_cons_zero, List.set_cons_succ])
        refine GWalk.floats (.cells #[.int .i64 (lo + q)] 3) (fun b => .slice (some ⟨b, 0, none⟩) 1 1) rfl rfl rfl (fun w1 => ?_) ?_
        · have hbu : Try.prog.builtSlice 3 1 [(0, .int .i64 (lo + q))] = some #[.int .i64 (lo + q)] := by kernel_rfl
          go_simp
        simp only [List.nil_append, List.cons_append]
        refine GWalk.acts rfl rfl fun w1 hb1 hS1 hO1 => ?_
        refine ⟨.slice (some ⟨w1.heap.size, 0, none⟩) 0 0, w1.alloc (.cells #[] 3), fun k => k = w1.heap.size, ?_, grow_to hS1 (box_below _ _), ⟨by simp, fun k hk _ => (box_below w1 _).block k hk, fun k hk => by subst hk; simp⟩, ?_⟩
        · kernel_rfl
        simp only [List.getElem_toArray, List.getElem_cons_succ, List.getElem_cons_zero, Act.put, List.setIfInBounds_toArray, List.set_cons_zero, List.set_cons_succ]
        have hrow0 := heap_alloc_new w1 (.cells #[] 3)
        have hg0 := hS1.size
        have hwr0 : wr.heap.size ≤ w1.heap.size := hb1.size
        have hgr0 : Below wr.heap.size wr (w1.alloc (.cells #[] 3)) := grow_to (grow_to (below_drawn _) hb1) (box_below _ _)
        have hS2 := grow_to hS1 (box_below w1 (.cells #[] 3))
        generalize w1.alloc (.cells #[] 3) = w2 at *
        generalize w1.heap.size = g0 at *
        clear hb1 hS1 hO1
        clear w1
        refine GWalk.acts rfl rfl fun w3 hb3 hS3 hO3 => ?_
        have hr3 := (hb3.block _ (lt_of_block hrow0)).trans hrow0
        have hw3 := grow_to HBW.out hS3
        have hgr3 := grow_to hgr0 hb3
        have hgr3s := hgr3.size
        obtain ⟨v4, w4, hrun, hown4, hgr4, hat4⟩ := append_nums W1.heap.size g0 26 (.slice sa 0 cp) bs w3 (HV.out.below hw3) HBS.out hS3.size hg0 hr3
        have hv4 : ∀ k, v4.ownBlock = some k → k = g0 ∨ (w3.heap.size ≤ k ∧ k < w4.heap.size) := fun k hk => by
          rcases hat4 with h | h
          · rw [h] at hk; cases hk; exact Or.inl rfl
          · rw [h] at hk
            cases hk
            refine Or.inr ⟨Nat.le_refl _, ?_⟩
            exact (hown4.lt _ h).2
        have hg0w := lt_of_block hr3
        have hS4 : Below W1.heap.size W1 w4 := ⟨hgr4.os.trans hS3.os, hgr4.tape.trans hS3.tape, hgr4.output.trans hS3.output, Nat.le_trans hS3.size hgr4.size, fun k hk => (hgr4.block k (Nat.lt_of_lt_of_le hk hS3.size) (fun e => by cases e; omega)).trans (hS3.block k hk)⟩
        have hgr4' : Below wr.heap.size wr w4 := ⟨hgr4.os.trans hgr3.os, hgr4.tape.trans hgr3.tape, hgr4.output.trans hgr3.output, Nat.le_trans hgr3.size hgr4.size, fun k hk => (hgr4.block k (Nat.lt_of_lt_of_le hk hgr3.size) (fun e => by cases e; omega)).trans (hgr3.block k hk)⟩
        refine ⟨v4, w4, fun k => k = g0 ∨ (w3.heap.size ≤ k ∧ k < w4.heap.size), ?_, hS4, ⟨hgr4.size, fun k hk ho => hgr4.block k hk (fun e => ho (Or.inl (by cases e; rfl))), fun k hk => ?_⟩, ?_⟩
        · exact exec_append (.tmp 46) (.tmp 47) rfl rfl rfl hrun
        · have := hgr4.size
          rcases hk with rfl | ⟨h1, h2⟩
          · exact ⟨Or.inl rfl, by omega⟩
          · exact ⟨Or.inr h1, h2⟩
        simp only [List.getElem_toArray, List.getElem_cons_succ, List.getElem_cons_zero, Act.put, List.setIfInBounds_toArray, List.set_cons_zero, List.set_cons_succ]
        clear hrun hat4 hS3 hO3 hb3 hr3 hw3 hS2 hrow0 hgr3 hgr0 hg0w
        refine GWalk.joins fun w5 ab hb5 hab1 hab2 hab3 hab4 => ?_
        simp only [List.getElem_toArray, List.getElem_cons_succ, List.getElem_cons_zero, Act.put, List.setIfInBounds_toArray, List.set_cons_zero, List.set_cons_succ]
        refine GWalk.acts rfl rfl fun w6 hb6 hS6 hO6 => ?_
        have hb46 := grow_to hb5 hb6
        have hown6 := hown4.kept (row := none) ⟨hb46.os, hb46.tape, hb46.output, hb46.size, fun k hk _ => hb46.block k hk⟩ (by cases h : v4.ownBlock <;> simp)
        obtain ⟨g, kx, w7, hrun, hown7, hgr7, hat7, hlt7⟩ := append_one3 w6 W1.heap.size bs.length 26 v4 (bs.map (Value.int .i64)) (lo + q) ab hown6 hS6.size ((hb6.block _ hab2).trans hab4) HBS.out
        have hv4b : ∀ k, v4.ownBlock = some k → W1.heap.size ≤ k := fun k hk => (hown4.lt k hk).1
        have hS7 : Below W1.heap.size W1 w7 := ⟨hgr7.os.trans hS6.os, hgr7.tape.trans hS6.tape, hgr7.output.trans hS6.output, Nat.le_trans hS6.size hgr7.size, fun k hk => (hgr7.block k (Nat.lt_of_lt_of_le hk hS6.size) (fun e => by have := hv4b k e.symm; omega)).trans (hS6.block k hk)⟩
        have hgr46 := grow_to hgr4' hb46
        have hv4w : ∀ k, v4.ownBlock = some k → wr.heap.size ≤ k := fun k hk => by
          have := hgr4.size
          rcases hv4 k hk with h | ⟨h, _⟩
          · omega
          · have h1 := hgr3s
            omega
        have hgr7' : Below wr.heap.size wr w7 := ⟨hgr7.os.trans hgr46.os, hgr7.tape.trans hgr46.tape, hgr7.output.trans hgr46.output, Nat.le_trans hgr46.size hgr7.size, fun k hk => (hgr7.block k (Nat.lt_of_lt_of_le hk hgr46.size) (fun e => by have := hv4w k e.symm; omega)).trans (hgr46.block k hk)⟩
        have hOg : (g = g0 ∨ (w3.heap.size ≤ g ∧ g < w4.heap.size)) ∨ (w6.heap.size ≤ g ∧ g < w7.heap.size) := by
          rcases hat7 with h | h
          · exact Or.inl (hv4 g h)
          · exact Or.inr ⟨by omega, hlt7⟩
        refine ⟨.slice (some ⟨g, 0, none⟩) (bs.length + 1) kx, w7, fun k => (k = g0 ∨ (w3.heap.size ≤ k ∧ k < w4.heap.size)) ∨ (w6.heap.size ≤ k ∧ k < w7.heap.size), ?_, hS7, ⟨hgr7.size, fun k hk ho => hgr7.block k hk (fun e => ho (Or.inl (hv4 k e.symm))), fun k hk => ?_⟩, ?_⟩
        · exact exec_append (.tmp 48) (.tmp 50) rfl rfl rfl hrun
        · rcases hk with h | ⟨h1, h2⟩
          · exact ⟨Or.inl h, Nat.lt_of_lt_of_le (hO6 k h) hgr7.size⟩
          · exact ⟨Or.inr h1, h2⟩
        simp only [List.getElem_toArray, List.getElem_cons_succ, List.getElem_cons_zero, Act.put, List.setIfInBounds_toArray, List.set_cons_zero, List.set_cons_succ]
        have hnum : NumV w7 (.slice (some ⟨g, 0, none⟩) (bs.length + 1) kx) (bs ++ [lo + (q : Int)]) := by
          have h1 : w7.ownsRow W1.heap.size 3 1 (.slice (some ⟨g, 0, none⟩) (bs.length + 1) kx) (bs ++ [lo + (q : Int)]).length ((bs ++ [lo + (q : Int)]).map (Value.int .i64)) := by
            rw [show (bs ++ [lo + (q : Int)]).length = bs.length + 1 by simp, show (bs ++ [lo + (q : Int)]).map (Value.int .i64) = bs.map (Value.int .i64) ++ [.int .i64 (lo + q)] by simp]
            exact hown7
          refine ⟨h1.1, ?_⟩
          rcases h1.2 with h | ⟨g', cap', cur', e1, _, e2⟩
          · exact .inl h
          · exact .inr ⟨g', cap', cur', e1, Nat.zero_le _, e2⟩
        clear hrun hown7 hgr7 hat7 hown6 hb46 hb6 hS6 hO6 hab4 hab3 hab2 hab1 hb5 hown4 hgr4 hgr4' hS4 hv4 hv4b hv4w hgr46 hOg
        refine GWalk.calls rfl rfl ?_; apply Exists.intro; apply Exists.intro; refine ⟨fun w' hS => ?_, fun w8 hb8 hS8 hO8 => ?_⟩; (clear hS; go_simp; exact ⟨rfl, rfl⟩)
        have HLE := Lib.hid (take_flat_le hlt (fun n => restL ms (bs ++ [n])))
        refine (HIH.out (lo + q) _ w8 (hnum.below hb8) (by have := HHI.out; omega) (grow_to HBW.out hS8)).mono ?_
        rintro e w9 ⟨v9, rfl, hv9, hb9⟩
        refine ⟨_, rfl, hb9, grow_to hS8 hb9, ?_⟩
        simp only [List.getElem_toArray, List.getElem_cons_succ, List.getElem_cons_zero, Act.put, List.setIfInBounds_toArray, List.set_cons_zero, List.set_cons_succ]
        have hgr9 := grow_to (grow_to hgr7' hb8) hb9
        have hv9' := hv9.mono (Nat.zero_le _)
        clear hv9 hnum hgr7' hb8 hS8 hO8 hlt7 hS7
        refine GWalk.fin fun w10 hb10 hS10 => ?_
        have hgr10 := grow_to hgr9 hb10
        have h5 := HS5.out.below hgr10
        have h9 := hv9'.below hb10
        obtain ⟨v', w11, hrun, hL11, hgr11, hown⟩ := append_lists W1.heap.size 47 u5 v9 _ _ w10 h5 h9 (by have := HLE.out; have := HLEN.out; omega) hS10.size
        have hS11 : Below W1.heap.size W1 w11 := ⟨hgr11.os.trans hS10.os, hgr11.tape.trans hS10.tape, hgr11.output.trans hS10.output, Nat.le_trans hS10.size hgr11.size, fun k hk => (hgr11.block k (Nat.lt_of_lt_of_le hk hS10.size) (fun e => by have := hown k e.symm; omega)).trans (hS10.block k hk)⟩
        refine Tail.grows rfl rfl (exec_append (.tmp 44) (.tmp 52) rfl rfl rfl hrun) hS11 ?_
        simp only [List.getElem_toArray, List.getElem_cons_succ, List.getElem_cons_zero, Act.put, List.setIfInBounds_toArray, List.set_cons_zero, List.set_cons_succ]
        refine Tail.value rfl rfl rfl (Tail.done (NoPanic.normal ?_))
        simp only [List.getElem_toArray, List.getElem_cons_succ, List.getElem_cons_zero, Act.put, List.setIfInBounds_toArray, List.set_cons_zero, List.set_cons_succ]
        have HL11 := Lib.hid hL11
        have HS11 := Lib.hid hS11
        rw [← take_flat hlt (fun n => restL ms (bs ++ [n]))] at HL11
        clear hrun hgr11 hL11 hown h5 h9 hgr10 hgr9 hv9' hb10 hS10 hb9 hS11
        go_wp2
        go_roundw
        case rel => exact ⟨q + 1, by omega, by simp; omega, HL11, HS11⟩
        case measure => simp [intOf] <;> omega
      · have hgt : ¬ lo + (q : Int) ≤ hi := by omega
        have hgt' : decide (lo + (q : Int) ≤ hi) = false := decide_eq_false hgt
        have HT : Hid ((upFrom lo hi).take q = upFrom lo hi) := Lib.hid (List.take_of_length_le (by rw [upFrom_len]; omega))
        go_wp2
        go_ret
        have h5 := HS5.out
        rw [HT.out] at h5
        exact ⟨_, rfl, h5.mono HBW.out.size, grow_to HBW.out HBr.out⟩
  | inr hl =>
    obtain ⟨m1, rfl⟩ : ∃ m1, m = m1 + 1 := ⟨m - 1, by omega⟩
    have e0 := hlast2 hl
    rw [Nat.add_sub_cancel] at e0
    obtain ⟨ad, rfl⟩ : ∃ ad, sa = some ad := by
      cases sa with
      | none => exact absurd (hsn rfl) (by omega)
      | some ad => exact ⟨ad, rfl⟩
    obtain ⟨gb, rfl, hg⟩ := hsa ad rfl
    have hgc := hg m1 (by omega)
    rw [Nat.zero_add, ← e0] at hgc
    have hgl : gb < w.heap.size := block_lt_of_cell hgc
    have d3 := (hb2.cell (p := ⟨gb, m1, none⟩) hgl).trans hgc
    have hw1 : IntKind.i64.wrap ((m1 : Int) + 1 - 1) = m1 := by rw [Int.add_sub_cancel]; exact IntWalk.i64_in _ (by have := HBN.out; have := HML.out; omega)
    have hw2 : IntKind.i64.wrap (m1 : Int) = m1 := IntWalk.i64_in _ (by have := HBN.out; have := HML.out; omega)
    have hw3 : (0 : Int) < (m1 : Int) + 1 := by omega
    have hw4 : (m1 : Int) < (m1 : Int) + 1 := by omega
    rw [Int.max_comm lst lo] at HLEN HHI ⊢
    obtain ⟨low, HLOW⟩ : ∃ low, Hid (max lo lst = low) := ⟨_, Lib.hid rfl⟩
    rw [HLOW.out] at HLEN HHI ⊢
    have hlw1 := HHI.out.1
    have hlw2 := HHI.out.2.1
    clear hlast hlast2 hlb hsa hsn e0 hg hgc hl
    go_enter Try.func39, Try.ntmps39
    go_wp2
    rw [HLOW.out]
    clear d3 hw1 hw2 hw3 hw4
    generalize World.alloc (World.alloc w _) _ = W1 at *
    have HBW := Lib.hid hb2
    have HC : Hid (∀ w', Below W1.heap.size W1 w' → w'.cell? ⟨w.heap.size, 0, none⟩ = some (.slice (some ⟨b, off, none⟩) ms.length capm) ∧ w'.cell? ⟨w.heap.size + 1, 1, none⟩ = some (.int .i64 hi)) := Lib.hid fun w' h => by
      have y1 := (h.block _ (lt_of_block hx1)).trans hx1
      have y2 := (h.block _ (lt_of_block hx2)).trans hx2
      exact ⟨cell_of_row w' w.heap.size 0 _ _ _ y1, cell_of_row w' (w.heap.size + 1) 1 _ _ _ y2⟩
    clear hb2 hx1 hx2 d1 d2
    go_loopw [5, 9] (fun s i wr => ∃ q : Nat, q ≤ (hi + 1 - low).toNat ∧ i = .int .i64 (low + q) ∧ Hid (ListsV W1.heap.size wr s (((upFrom low hi).take q).flatMap fun n => restL ms (bs ++ [n]))) ∧ Hid (Below W1.heap.size W1 wr)) (fun _ i _ => (hi + 1 - intOf i).toNat)
    case atStart => exact ⟨0, by omega, by simp, Lib.hid (by rw [List.take_zero]; exact ListsV.nil _ _), Lib.hid (Below.refl _ _)⟩
    case round =>
      obtain ⟨q, hq, rfl, HS5, HBr⟩ := hrel
      obtain ⟨d0, d1⟩ := HC.out wr HBr.out
      by_cases hlt : (q : Int) < hi - low + 1
      · have hle : low + (q : Int) ≤ hi := by omega
        have hle' : decide (low + (q : Int) ≤ hi) = true := decide_eq_true hle
        go_wp2
        clear d0 d1 hle hle'
        refine wp_region_noPanic ?_
        refine wp_region_acts (fun w' => Below W1.heap.size W1 w') (fun _ _ h hb => grow_to h hb) (grow_to HBr.out (below_drawn _)) (by kernel_rfl) (fun _ _ _ _ _ h => h)
          [.take 0, .take 1, .take 3, .take 5, .float 6, .act 2, .act 4, .join, .act 7, .call 8] [9, 10] (by kernel_rfl) ?_
        iterate 4
          (refine GWalk.takes rfl rfl ?_; apply Exists.intro; refine ⟨fun w' hS => ?_, ?_⟩; (obtain ⟨d0, d1⟩ := HC.out w' hS; clear hS; go_simp; with_reducible rfl); simp only [List.getElem_toArray, List.getElem_cons_succ, List.getElem_cons_zero, Act.put, List.setIfInBounds_toArray, List.set_cons_zero, List.set_cons_succ])
        refine GWalk.floats (.cells #[.int .i64 (low + q)] 3) (fun b => .slice (some ⟨b, 0, none⟩) 1 1) rfl rfl rfl (fun w1 => ?_) ?_
        · have hbu : Try.prog.builtSlice 3 1 [(0, .int .i64 (low + q))] = some #[.int .i64 (low + q)] := by kernel_rfl
          go_simp
        simp only [List.nil_append, List.cons_append]
        refine GWalk.acts rfl rfl fun w1 hb1 hS1 hO1 => ?_
        refine ⟨.slice (some ⟨w1.heap.size, 0, none⟩) 0 0, w1.alloc (.cells #[] 3), fun k => k = w1.heap.size, ?_, grow_to hS1 (box_below _ _), ⟨by simp, fun k hk _ => (box_below w1 _).block k hk, fun k hk => by subst hk; simp⟩, ?_⟩
        · kernel_rfl
        simp only [List.getElem_toArray, List.getElem_cons_succ, List.getElem_cons_zero, Act.put, List.setIfInBounds_toArray, List.set_cons_zero, List.set_cons_succ]
        have hrow0 := heap_alloc_new w1 (.cells #[] 3)
        have hg0 := hS1.size
        have hwr0 : wr.heap.size ≤ w1.heap.size := hb1.size
        have hgr0 : Below wr.heap.size wr (w1.alloc (.cells #[] 3)) := grow_to (grow_to (below_drawn _) hb1) (box_below _ _)
        have hS2 := grow_to hS1 (box_below w1 (.cells #[] 3))
        generalize w1.alloc (.cells #[] 3) = w2 at *
        generalize w1.heap.size = g0 at *
        clear hb1 hS1 hO1
        clear w1
        refine GWalk.acts rfl rfl fun w3 hb3 hS3 hO3 => ?_
        have hr3 := (hb3.block _ (lt_of_block hrow0)).trans hrow0
        have hw3 := grow_to HBW.out hS3
        have hgr3 := grow_to hgr0 hb3
        have hgr3s := hgr3.size
        obtain ⟨v4, w4, hrun, hown4, hgr4, hat4⟩ := append_nums W1.heap.size g0 26 (.slice (some ⟨gb, 0, none⟩) (m1 + 1) cp) bs w3 (HV.out.below hw3) HBS.out hS3.size hg0 hr3
        have hv4 : ∀ k, v4.ownBlock = some k → k = g0 ∨ (w3.heap.size ≤ k ∧ k < w4.heap.size) := fun k hk => by
          rcases hat4 with h | h
          · rw [h] at hk; cases hk; exact Or.inl rfl
          · rw [h] at hk
            cases hk
            refine Or.inr ⟨Nat.le_refl _, ?_⟩
            exact (hown4.lt _ h).2
        have hg0w := lt_of_block hr3
        have hS4 : Below W1.heap.size W1 w4 := ⟨hgr4.os.trans hS3.os, hgr4.tape.trans hS3.tape, hgr4.output.trans hS3.output, Nat.le_trans hS3.size hgr4.size, fun k hk => (hgr4.block k (Nat.lt_of_lt_of_le hk hS3.size) (fun e => by cases e; omega)).trans (hS3.block k hk)⟩
        have hgr4' : Below wr.heap.size wr w4 := ⟨hgr4.os.trans hgr3.os, hgr4.tape.trans hgr3.tape, hgr4.output.trans hgr3.output, Nat.le_trans hgr3.size hgr4.size, fun k hk => (hgr4.block k (Nat.lt_of_lt_of_le hk hgr3.size) (fun e => by cases e; omega)).trans (hgr3.block k hk)⟩
        refine ⟨v4, w4, fun k => k = g0 ∨ (w3.heap.size ≤ k ∧ k < w4.heap.size), ?_, hS4, ⟨hgr4.size, fun k hk ho => hgr4.block k hk (fun e => ho (Or.inl (by cases e; rfl))), fun k hk => ?_⟩, ?_⟩
        · exact exec_append (.tmp 46) (.tmp 47) rfl rfl rfl hrun
        · have := hgr4.size
          rcases hk with rfl | ⟨h1, h2⟩
          · exact ⟨Or.inl rfl, by omega⟩
          · exact ⟨Or.inr h1, h2⟩
        simp only [List.getElem_toArray, List.getElem_cons_succ, List.getElem_cons_zero, Act.put, List.setIfInBounds_toArray, List.set_cons_zero, List.set_cons_succ]
        clear hrun hat4 hS3 hO3 hb3 hr3 hw3 hS2 hrow0 hgr3 hgr0 hg0w
        refine GWalk.joins fun w5 ab hb5 hab1 hab2 hab3 hab4 => ?_
        simp only [List.getElem_toArray, List.getElem_cons_succ, List.getElem_cons_zero, Act.put, List.setIfInBounds_toArray, List.set_cons_zero, List.set_cons_succ]
        refine GWalk.acts rfl rfl fun w6 hb6 hS6 hO6 => ?_
        have hb46 := grow_to hb5 hb6
        have hown6 := hown4.kept (row := none) ⟨hb46.os, hb46.tape, hb46.output, hb46.size, fun k hk _ => hb46.block k hk⟩ (by cases h : v4.ownBlock <;> simp)
        obtain ⟨g, kx, w7, hrun, hown7, hgr7, hat7, hlt7⟩ := append_one3 w6 W1.heap.size bs.length 26 v4 (bs.map (Value.int .i64)) (low + q) ab hown6 hS6.size ((hb6.block _ hab2).trans hab4) HBS.out
        have hv4b : ∀ k, v4.ownBlock = some k → W1.heap.size ≤ k := fun k hk => (hown4.lt k hk).1
        have hS7 : Below W1.heap.size W1 w7 := ⟨hgr7.os.trans hS6.os, hgr7.tape.trans hS6.tape, hgr7.output.trans hS6.output, Nat.le_trans hS6.size hgr7.size, fun k hk => (hgr7.block k (Nat.lt_of_lt_of_le hk hS6.size) (fun e => by have := hv4b k e.symm; omega)).trans (hS6.block k hk)⟩
        have hgr46 := grow_to hgr4' hb46
        have hv4w : ∀ k, v4.ownBlock = some k → wr.heap.size ≤ k := fun k hk => by
          have := hgr4.size
          rcases hv4 k hk with h | ⟨h, _⟩
          · omega
          · have h1 := hgr3s
            omega
        have hgr7' : Below wr.heap.size wr w7 := ⟨hgr7.os.trans hgr46.os, hgr7.tape.trans hgr46.tape, hgr7.output.trans hgr46.output, Nat.le_trans hgr46.size hgr7.size, fun k hk => (hgr7.block k (Nat.lt_of_lt_of_le hk hgr46.size) (fun e => by have := hv4w k e.symm; omega)).trans (hgr46.block k hk)⟩
        have hOg : (g = g0 ∨ (w3.heap.size ≤ g ∧ g < w4.heap.size)) ∨ (w6.heap.size ≤ g ∧ g < w7.heap.size) := by
          rcases hat7 with h | h
          · exact Or.inl (hv4 g h)
          · exact Or.inr ⟨by omega, hlt7⟩
        refine ⟨.slice (some ⟨g, 0, none⟩) (bs.length + 1) kx, w7, fun k => (k = g0 ∨ (w3.heap.size ≤ k ∧ k < w4.heap.size)) ∨ (w6.heap.size ≤ k ∧ k < w7.heap.size), ?_, hS7, ⟨hgr7.size, fun k hk ho => hgr7.block k hk (fun e => ho (Or.inl (hv4 k e.symm))), fun k hk => ?_⟩, ?_⟩
        · exact exec_append (.tmp 48) (.tmp 50) rfl rfl rfl hrun
        · rcases hk with h | ⟨h1, h2⟩
          · exact ⟨Or.inl h, Nat.lt_of_lt_of_le (hO6 k h) hgr7.size⟩
          · exact ⟨Or.inr h1, h2⟩
        simp only [List.getElem_toArray, List.getElem_cons_succ, List.getElem_cons_zero, Act.put, List.setIfInBounds_toArray, List.set_cons_zero, List.set_cons_succ]
        have hnum : NumV w7 (.slice (some ⟨g, 0, none⟩) (bs.length + 1) kx) (bs ++ [low + (q : Int)]) := by
          have h1 : w7.ownsRow W1.heap.size 3 1 (.slice (some ⟨g, 0, none⟩) (bs.length + 1) kx) (bs ++ [low + (q : Int)]).length ((bs ++ [low + (q : Int)]).map (Value.int .i64)) := by
            rw [show (bs ++ [low + (q : Int)]).length = bs.length + 1 by simp, show (bs ++ [low + (q : Int)]).map (Value.int .i64) = bs.map (Value.int .i64) ++ [.int .i64 (low + q)] by simp]
            exact hown7
          refine ⟨h1.1, ?_⟩
          rcases h1.2 with h | ⟨g', cap', cur', e1, _, e2⟩
          · exact .inl h
          · exact .inr ⟨g', cap', cur', e1, Nat.zero_le _, e2⟩
        clear hrun hown7 hgr7 hat7 hown6 hb46 hb6 hS6 hO6 hab4 hab3 hab2 hab1 hb5 hown4 hgr4 hgr4' hS4 hv4 hv4b hv4w hgr46 hOg
        refine GWalk.calls rfl rfl ?_; apply Exists.intro; apply Exists.intro; refine ⟨fun w' hS => ?_, fun w8 hb8 hS8 hO8 => ?_⟩; (clear hS; go_simp; exact ⟨rfl, rfl⟩)
        have HLE := Lib.hid (take_flat_le hlt (fun n => restL ms (bs ++ [n])))
        refine (HIH.out (low + q) _ w8 (hnum.below hb8) (by have := HHI.out; omega) (grow_to HBW.out hS8)).mono ?_
        rintro e w9 ⟨v9, rfl, hv9, hb9⟩
        refine ⟨_, rfl, hb9, grow_to hS8 hb9, ?_⟩
        simp only [List.getElem_toArray, List.getElem_cons_succ, List.getElem_cons_zero, Act.put, List.setIfInBounds_toArray, List.set_cons_zero, List.set_cons_succ]
        have hgr9 := grow_to (grow_to hgr7' hb8) hb9
        have hv9' := hv9.mono (Nat.zero_le _)
        clear hv9 hnum hgr7' hb8 hS8 hO8 hlt7 hS7
        refine GWalk.fin fun w10 hb10 hS10 => ?_
        have hgr10 := grow_to hgr9 hb10
        have h5 := HS5.out.below hgr10
        have h9 := hv9'.below hb10
        obtain ⟨v', w11, hrun, hL11, hgr11, hown⟩ := append_lists W1.heap.size 47 u5 v9 _ _ w10 h5 h9 (by have := HLE.out; have := HLEN.out; omega) hS10.size
        have hS11 : Below W1.heap.size W1 w11 := ⟨hgr11.os.trans hS10.os, hgr11.tape.trans hS10.tape, hgr11.output.trans hS10.output, Nat.le_trans hS10.size hgr11.size, fun k hk => (hgr11.block k (Nat.lt_of_lt_of_le hk hS10.size) (fun e => by have := hown k e.symm; omega)).trans (hS10.block k hk)⟩
        refine Tail.grows rfl rfl (exec_append (.tmp 44) (.tmp 52) rfl rfl rfl hrun) hS11 ?_
        simp only [List.getElem_toArray, List.getElem_cons_succ, List.getElem_cons_zero, Act.put, List.setIfInBounds_toArray, List.set_cons_zero, List.set_cons_succ]
        refine Tail.value rfl rfl rfl (Tail.done (NoPanic.normal ?_))
        simp only [List.getElem_toArray, List.getElem_cons_succ, List.getElem_cons_zero, Act.put, List.setIfInBounds_toArray, List.set_cons_zero, List.set_cons_succ]
        have HL11 := Lib.hid hL11
        have HS11 := Lib.hid hS11
        rw [← take_flat hlt (fun n => restL ms (bs ++ [n]))] at HL11
        clear hrun hgr11 hL11 hown h5 h9 hgr10 hgr9 hv9' hb10 hS10 hb9 hS11
        go_wp2
        go_roundw
        case rel => exact ⟨q + 1, by omega, by simp; omega, HL11, HS11⟩
        case measure => simp [intOf] <;> omega
      · have hgt : ¬ low + (q : Int) ≤ hi := by omega
        have hgt' : decide (low + (q : Int) ≤ hi) = false := decide_eq_false hgt
        have HT : Hid ((upFrom low hi).take q = upFrom low hi) := Lib.hid (List.take_of_length_le (by rw [upFrom_len]; omega))
        go_wp2
        go_ret
        have h5 := HS5.out
        rw [HT.out] at h5
        exact ⟨_, rfl, h5.mono HBW.out.size, grow_to HBW.out HBr.out⟩

/-- All rates, as the reference lists them. -/
theorem Lists_ok (n0 : Nat) (am : Option Addr) (capm : Nat) (ms : List Rg) (hm : RgsOk ms) : ∀ (k : Nat) (bs : List Int) (bv : Value) (w : World), bs.length + k = ms.length → NumV w bv bs → (∀ i, i < bs.length → 0 ≤ ld bs i ∧ ld bs i ≤ 1000) → RgsV n0 w (.slice am ms.length capm) ms → n0 ≤ w.heap.size →
    Calls Try.prog 39 #[.agg #[.slice am ms.length capm], bv] w (Lists1 w (restL ms bs))
  | 0, bs, bv, w, hk, h, _, _, _ => Lists_zero am capm ms bs bv w (by omega) h
  | k + 1, bs, bv, w, hk, h, hb, hV, hn => Lists_succ n0 k am capm ms bs bv w hm hk h hb hV hn (fun cs cv W h1 h2 h3 h4 h5 => Lists_ok n0 am capm ms hm k cs cv W h1 h2 h3 h4 h5)
theorem Lists_all (n0 : Nat) (am : Option Addr) (capm : Nat) (ms : List Rg) (w : World) (hm : RgsOk ms) (hV : RgsV n0 w (.slice am ms.length capm) ms) (hn : n0 ≤ w.heap.size) :
    Calls Try.prog 39 #[.agg #[.slice am ms.length capm], .slice none 0 0] w (Lists1 w (allL ms)) := by
  rw [← restL_nil]
  exact Lists_ok n0 am capm ms hm ms.length [] _ w (by simp) (NumV.nil w) (fun i hi => by simp at hi) hV hn
end Go.Proofs.Ytfijaafkagcmmaa
