/- Comparisons in another order, one of them twice, some with their sides exchanged; parts of a slice of comparisons; one comparison of a row is set. No condition. -/
import Derived.Test.YtplmlmmjfkbabaaAJ
namespace Go.Proofs.Ytplmlmmjfkbabaa
open Go.RowKit Go.Shelf
attribute [local irreducible] arrV wpQuiet

theorem flip_flip (c : Cm) : flipC (flipC c) = c := by
  cases c
  simp [flipC]
theorem CmOk.flip {n : Int} {c : Cm} (h : CmOk n c) (h0 : 0 ≤ c.r) : CmOk n (flipC c) := by
  have := h.l0; have := h.ln; have := h.rn; have := h.ne; have := h.lo; have := h.le; have := h.hi
  exact ⟨by simp only [flipC]; omega, by simp only [flipC]; omega, by simp only [flipC]; omega, by simp only [flipC]; omega, by simp only [flipC]; omega, by simp only [flipC]; omega, by simp only [flipC]; omega, by simp only [flipC]; omega⟩
/-- The list zs is ys but for sides exchanged. -/
structure FL (n : Int) (ys zs : List Cm) : Prop where
  len : zs.length = ys.length
  ok : ∀ i, i < zs.length → CmOk n (cm zs i)
  eq : ∀ i, i < zs.length → cm zs i = cm ys i ∨ cm zs i = flipC (cm ys i)
theorem mem_cm {l : List Cm} {c : Cm} (h : c ∈ l) : ∃ i, i < l.length ∧ cm l i = c := by
  obtain ⟨i, hi, e⟩ := List.mem_iff_getElem.1 h
  exact ⟨i, hi, by simp [cm, hi, e]⟩
theorem FL.refl {n : Int} {ys : List Cm} (h : ∀ c, c ∈ ys → CmOk n c) : FL n ys ys := ⟨rfl, fun _ hi => h _ (cm_mem hi), fun _ _ => .inl rfl⟩
theorem FL.set {n : Int} {ys zs : List Cm} (h : FL n ys zs) {q : Nat} (hq : q < zs.length) (h0 : 0 ≤ (cm zs q).r) : FL n ys (zs.set q (flipC (cm zs q))) := by
  have e1 : cm (zs.set q (flipC (cm zs q))) q = flipC (cm zs q) := by simp [cm, hq]
  have e2 : ∀ i, i ≠ q → cm (zs.set q (flipC (cm zs q))) i = cm zs i := fun i hi => by simp [cm, List.getElem?_set_ne (Ne.symm hi)]
  refine ⟨by simp [h.len], fun i hi => ?_, fun i hi => ?_⟩
  · by_cases e : i = q
    · subst e
      rw [e1]
      exact (h.ok i hq).flip h0
    · rw [e2 i e]
      exact h.ok i (by simpa using hi)
  · by_cases e : i = q
    · subst e
      rw [e1]
      rcases h.eq i hq with h1 | h1
      · exact .inr (by rw [h1])
      · exact .inl (by rw [h1, flip_flip])
    · rw [e2 i e]
      exact h.eq i (by simpa using hi)
theorem order_mem {cs : List Cm} {k : Nat} {c : Cm} : c ∈ cs.drop k ++ cs.take (k + 1) ↔ c ∈ cs := by
  refine ⟨fun h => ?_, fun h => ?_⟩
  · rcases List.mem_append.1 h with h | h
    · exact List.mem_of_mem_drop h
    · exact List.mem_of_mem_take h
  · rw [← List.take_append_drop k cs] at h
    rcases List.mem_append.1 h with h | h
    · refine List.mem_append.2 (.inr ?_)
      rw [List.take_add_one]
      exact List.mem_append.2 (.inl h)
    · exact List.mem_append.2 (.inl h)
theorem order_len {cs : List Cm} {k : Nat} (hk : k < cs.length) : (cs.drop k ++ cs.take (k + 1)).length = cs.length + 1 := by
  simp
  omega
theorem order_ok {n : Int} {cs zs : List Cm} {k : Nat} (hA : AlbOk n cs) (hl : cs.length ≤ 11) (hk : k < cs.length) (h : FL n (cs.drop k ++ cs.take (k + 1)) zs) : AlbOk n zs :=
  ⟨hA.n0, hA.n8, by rw [h.len, order_len hk]; omega, fun c hc => by
    obtain ⟨i, hi, rfl⟩ := mem_cm hc
    exact h.ok i hi⟩
theorem order_fits {n : Int} {cs zs : List Cm} {k : Nat} (h : FL n (cs.drop k ++ cs.take (k + 1)) zs) (g : Nat → Int) : Fits cs g ↔ Fits zs g := by
  refine flip_same (fun c hc => ?_) (fun c hc => ?_) g
  · obtain ⟨i, hi, rfl⟩ := mem_cm hc
    exact ⟨_, order_mem.1 (cm_mem (by rw [← h.len]; exact hi)), h.eq i hi⟩
  · obtain ⟨i, hi, rfl⟩ := mem_cm (order_mem (k := k).2 hc)
    have hi' : i < zs.length := by rw [h.len]; exact hi
    refine ⟨_, cm_mem hi', ?_⟩
    rcases h.eq i hi' with e | e
    · exact .inl e.symm
    · exact .inr (by rw [e, flip_flip])
theorem order_same {n : Int} {cs zs : List Cm} {k : Nat} (hA : AlbOk n cs) (hl : cs.length ≤ 11) (hk : k < cs.length) (h : FL n (cs.drop k ++ cs.take (k + 1)) zs) : (distO cs = none ∧ distO zs = none) ∨ ∃ d d', distO cs = some d ∧ distO zs = some d' ∧ EqD d d' :=
  dist_same hA (order_ok hA hl hk h) (order_fits h)

theorem size73 : ∃ i, Try.prog.info? 73 = some i ∧ i.size = 4 := by
  obtain ⟨i, z, h1, _, h2, _⟩ := el22.i
  exact ⟨i, h1, h2⟩
/-- The address of a part that begins at an element. -/
def lowA (ad : Option Addr) (q c : Nat) : Option Addr := if c = q then ad else ad.map (·.add (q * 4))
theorem exec_slice_hi {a : Act} {o : Oper} {W : World} (x y : Operand) (ho : o.op = .slice 22 x none (some y) none) {ad : Option Addr} {n c q : Nat} {k : Int} (hx : a.eval x = .slice ad n c) (hy : a.eval y = .int .i64 k) (hk : k = (q : Int)) (h : q ≤ c) :
    (execOp a.eval o).run Try.prog W = .ok (.value (.slice ad q c)) W := by
  subst hk
  obtain ⟨i, h1, h2⟩ := size73
  have e0 : ad.map (·.add 0) = ad := by cases ad <;> simp [Addr.add]
  have h3 : (q : Int) ≤ (c : Int) := by omega
  unfold execOp
  simp [ho, hx, hy, Instr.sliceAt, Instr.slice, run_underlying el22.u, Instr.sliceBounds, Instr.sliceBound, asIntOf, sizeOf, typeInfo, h1, h2, h3, h, Result.andThen, e0]
theorem exec_slice_lo {a : Act} {o : Oper} {W : World} (x y : Operand) (ho : o.op = .slice 22 x (some y) none none) {ad : Option Addr} {n c q : Nat} {k : Int} (hx : a.eval x = .slice ad n c) (hy : a.eval y = .int .i64 k) (hk : k = (q : Int)) (h : q ≤ n) :
    (execOp a.eval o).run Try.prog W = .ok (.value (.slice (lowA ad q c) (n - q) (c - q))) W := by
  subst hk
  obtain ⟨i, h1, h2⟩ := size73
  have h3 : (q : Int) ≤ (n : Int) := by omega
  unfold execOp lowA
  simp [ho, hx, hy, Instr.sliceAt, Instr.slice, run_underlying el22.u, Instr.sliceBounds, Instr.sliceBound, asIntOf, sizeOf, typeInfo, h1, h2, h3, h, Result.andThen]
theorem flatC_append (l m : List Cm) : flatC (l ++ m) = flatC l ++ flatC m := by simp [flatC]
theorem flatC_take (l : List Cm) (m : Nat) (j : Nat) (u : Value) (h : (flatC (l.take m))[j]? = some u) : (flatC l)[j]? = some u := by
  have e : flatC l = flatC (l.take m) ++ flatC (l.drop m) := by rw [← flatC_append, List.take_append_drop]
  rw [e, List.getElem?_append_left (List.getElem?_eq_some_iff.1 h).1]
  exact h
theorem flatC_drop (l : List Cm) (m : Nat) (hm : m ≤ l.length) (j : Nat) (u : Value) (h : (flatC (l.drop m))[j]? = some u) : (flatC l)[m * 4 + j]? = some u := by
  have e : flatC l = flatC (l.take m) ++ flatC (l.drop m) := by rw [← flatC_append, List.take_append_drop]
  have hl : (flatC (l.take m)).length = m * 4 := by rw [flatC_len, List.length_take]; omega
  rw [e, List.getElem?_append_right (by omega), hl, Nat.add_sub_cancel_left]
  exact h
theorem part_hi {N : Nat} {W : World} {ad : Option Addr} {c : Nat} {cs : List Cm} (hP : CmsV N W (.slice ad cs.length c) cs) (m : Nat) (hm : m ≤ cs.length) :
    (ad = none → m = 0) ∧ (0 < m → ∃ b off, ad = some ⟨b, off, none⟩ ∧ ∀ j u, (flatC (cs.take m))[j]? = some u → W.cell? ⟨b, off + j, none⟩ = some u) := by
  obtain ⟨h1, h2⟩ := cms_cells hP
  refine ⟨fun h => by have := h1 h; omega, fun h => ?_⟩
  obtain ⟨b, off, e, hc⟩ := h2 (by omega)
  exact ⟨b, off, e, fun j u hj => hc j u (flatC_take cs m j u hj)⟩
theorem part_lo {N : Nat} {W : World} {ad : Option Addr} {c : Nat} {cs : List Cm} (hP : CmsV N W (.slice ad cs.length c) cs) (q : Nat) (hq : q ≤ cs.length) (hc : cs.length ≤ c) :
    (lowA ad q c = none → cs.length - q = 0) ∧ (0 < cs.length - q → ∃ b off, lowA ad q c = some ⟨b, off, none⟩ ∧ ∀ j u, (flatC (cs.drop q))[j]? = some u → W.cell? ⟨b, off + j, none⟩ = some u) := by
  obtain ⟨-, h2⟩ := cms_cells hP
  have key : 0 < cs.length - q → ∃ b off, lowA ad q c = some ⟨b, off, none⟩ ∧ ∀ j u, (flatC (cs.drop q))[j]? = some u → W.cell? ⟨b, off + j, none⟩ = some u := fun h => by
    obtain ⟨b, off, rfl, hcell⟩ := h2 (by omega)
    refine ⟨b, off + q * 4, ?_, fun j u hj => ?_⟩
    · unfold lowA
      rw [if_neg (by omega)]
      simp [Addr.add]
    · rw [Nat.add_assoc]
      exact hcell _ _ (flatC_drop cs q hq j u hj)
  refine ⟨fun h => ?_, key⟩
  rcases Nat.eq_zero_or_pos (cs.length - q) with h0 | h0
  · exact h0
  · obtain ⟨b, off, e, _⟩ := key h0
    rw [h] at e
    cases e
theorem flatC_set (l : List Cm) (q : Nat) (c : Cm) (h : q < l.length) : flatC (l.set q c) = flatC (l.take q) ++ [.int .i64 c.l, .int .i64 c.r, .int .i64 c.lo, .int .i64 c.hi] ++ flatC (l.drop (q + 1)) := by
  rw [List.set_eq_take_append_cons_drop, if_pos h, flatC_append]
  simp [flatC]
/-- One comparison of a row of one's own is set. -/
theorem own_set {w : World} {base g cap n q : Nat} {l : List Cm} (c : Cm) (hn : n = l.length) (h : w.ownsRow base 73 4 (.slice (some ⟨g, 0, none⟩) n cap) n (flatC l)) (hq : q < n) :
    (w.setCells g (q * 4) [.int .i64 c.l, .int .i64 c.r, .int .i64 c.lo, .int .i64 c.hi]).ownsRow base 73 4 (.slice (some ⟨g, 0, none⟩) n cap) n (flatC (l.set q c)) := by
  subst hn
  refine ⟨by rw [flatC_len, List.length_set], ?_⟩
  rcases h.2 with ⟨hv, _⟩ | ⟨g', c', cur, hv, hb, hg, hn', hc, hs, ht⟩
  · cases hv
  cases hv
  have hlen : (flatC l).length = l.length * 4 := flatC_len l
  obtain ⟨post, hpost⟩ : ∃ post, post = cur.toList.drop (l.length * 4) := ⟨_, rfl⟩
  have hcur : cur.toList = flatC l ++ post := by rw [hpost, ← ht, List.take_append_drop]
  have hself : flatC l = flatC (l.take q) ++ [.int .i64 l[q].l, .int .i64 l[q].r, .int .i64 l[q].lo, .int .i64 l[q].hi] ++ flatC (l.drop (q + 1)) := by
    have := flatC_set l q l[q] hq
    rwa [List.set_getElem_self] at this
  have hpl : (flatC (l.take q)).length = q * 4 := by rw [flatC_len, List.length_take]; omega
  have hset := set_list g 73 [.int .i64 c.l, .int .i64 c.r, .int .i64 c.lo, .int .i64 c.hi] (flatC (l.take q)) [.int .i64 l[q].l, .int .i64 l[q].r, .int .i64 l[q].lo, .int .i64 l[q].hi] (flatC (l.drop (q + 1)) ++ post) w rfl (by
    rw [← List.append_assoc, ← hself, ← hcur]
    exact hg)
  rw [hpl, ← List.append_assoc, ← flatC_set l q c hq] at hset
  have hl2 : (flatC (l.set q c)).length = l.length * 4 := by rw [flatC_len, List.length_set]
  have hsz : cur.size = (flatC l ++ post).length := by rw [← hcur]; simp
  refine .inr ⟨g, cap, _, rfl, hb, hset, hn', hc, ?_, ?_⟩
  · rw [List.length_append, hlen] at hsz
    simp only [List.size_toArray, List.length_append, hl2]
    omega
  · simp only [Array.toList]
    rw [List.take_append_of_le_length (by omega), List.take_of_length_le (by omega)]
end Go.Proofs.Ytplmlmmjfkbabaa
