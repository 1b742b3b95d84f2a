/- Marks that ranges leave; plain facts of what is left of lots and samples. No condition. -/
import Derived.Test.YtpdkgnfblnblbaaL
import Derived.Test.YtpdkgnfblnblbaaQT
namespace Go.Proofs.Ytpdkgnfblnblbaa
open Go.RowKit Go.Shelf
attribute [local irreducible] arrV wpQuiet
/-- Marks that ranges over functions have left, in blocks that rise. -/
def MarksOk (lo : Nat) : Nat → List Deferred → World → Prop
  | _, [], _ => True
  | hi, x :: ds, w => ∃ r, x = { target := .collected r, args := #[] } ∧ lo ≤ r ∧ r < hi ∧ w.heap[r]? = some (.deferred (some [])) ∧ MarksOk lo r ds w
theorem MarksOk.same {lo : Nat} {w w' : World} : ∀ {hi : Nat} {ds : List Deferred}, MarksOk lo hi ds w → (∀ k, lo ≤ k → k < hi → w'.heap[k]? = w.heap[k]?) → MarksOk lo hi ds w'
  | _, [], _, _ => trivial
  | _, _ :: _, ⟨r, h1, h2, h3, h4, h5⟩, hs => ⟨r, h1, h2, h3, (hs r h2 h3).trans h4, h5.same fun k hk hk2 => hs k hk (by omega)⟩
theorem MarksOk.up {lo hi hi' : Nat} {ds : List Deferred} {w : World} (h : MarksOk lo hi ds w) (hh : hi ≤ hi') : MarksOk lo hi' ds w := by
  match ds, h with
  | [], _ => trivial
  | _ :: _, ⟨r, h1, h2, h3, h4, h5⟩ => exact ⟨r, h1, h2, by omega, h4, h5⟩
theorem MarksOk.tag {lo : Nat} {w w' : World} : ∀ {hi : Nat} {ds : List Deferred}, MarksOk lo hi ds w → (∀ (k : Nat) (d : Option (List Deferred)), w.heap[k]? = some (Obj.deferred d) → w'.heap[k]? = w.heap[k]?) → MarksOk lo hi ds w'
  | _, [], _, _ => trivial
  | _, _ :: _, ⟨r, h1, h2, h3, h4, h5⟩, hs => ⟨r, h1, h2, h3, (hs r _ h4).trans h4, h5.tag hs⟩
theorem marks_end {F : Fence} {n : Nat} {P : Program} {fn : Func} {tmps : Array Value} {R : Ending → World → Prop} {lo : Nat} : ∀ {hi : Nat} {ds : List Deferred} {w : World}, MarksOk lo hi ds w →
    (∀ w' : World, w'.os = w.os → w'.tape = w.tape → w'.output = w.output → w.heap.size ≤ w'.heap.size → (∀ k, k < lo → w'.heap[k]? = w.heap[k]?) → (∀ k : Nat, (∀ d : Option (List Deferred), w.heap[k]? ≠ some (Obj.deferred d)) → w'.heap[k]? = w.heap[k]?) → LeavesInM F n P fn tmps R [] .returning w') → LeavesInM F n P fn tmps R ds .returning w
  | _, [], w, _, h => h w rfl rfl rfl (Nat.le_refl _) (fun _ _ => rfl) fun _ _ => rfl
  | _, _ :: ds, w, ⟨r, h1, h2, h3, h4, h5⟩, h => by
    subst h1
    refine ⟨by simp, .inl ⟨r, _, rfl, run_takeDeferred h4, ?_⟩⟩
    refine marks_end (hi := r) (h5.same fun k hk hk2 => World.putObj_heap_other (by omega)) fun w' e1 e2 e3 e4 e5 e6 => h w' e1 e2 e3 (by simpa using e4) (fun k hk => (e5 k hk).trans (World.putObj_heap_other (by omega))) fun k hk => ?_
    have hne : k ≠ r := fun e => hk _ (by rw [e]; exact h4)
    have hsame : (w.putObj r (Obj.deferred none)).heap[k]? = w.heap[k]? := World.putObj_heap_other hne
    exact (e6 k (fun d hd => hk d (hsame.symm.trans hd))).trans hsame
theorem own_at {W W' : World} {base e sz n : Nat} {v : Value} {l : List Value} (h : W.ownsRow base e sz v n l) (hs : ∀ g, v.ownBlock = some g → W'.heap[g]? = W.heap[g]?) : W'.ownsRow base e sz v n l := by
  refine ⟨h.1, ?_⟩
  rcases h.2 with h0 | ⟨g, cap, cur, hv, hbg, hgg, hr⟩
  · exact .inl h0
  · exact .inr ⟨g, cap, cur, hv, hbg, (hs g (by rw [hv]; rfl)).trans hgg, hr⟩
theorem wpListIn_store46 {F : Fence} {n' : Nat} {ops : Array Oper} {rest : List Oper} {o : Oper} {a : Act} {Q : Exit → Act → World → Prop} {w : World} (hgd : o.guard = none) (x y : Operand) (ho : o.op = .store 46 x y) (g : Nat) (hx : a.eval x = .pointer (some ⟨g, 0, none⟩))
    (u1 u2 : Value) (x1 x2 : Int) (hy : a.eval y = .agg #[.int .i64 x1, .int .i64 x2]) (hg : w.heap[g]? = some (.cells #[u1, u2] 46 (0, 0)))
    (h : ∀ w2, Put g w w2 → w2.heap[g]? = some (.cells #[.int .i64 x1, .int .i64 x2] 46 (0, 0)) → wpListIn F n' Try.prog ops Q rest (a.put o.dst undef) w2) : wpListIn F n' Try.prog ops Q (o :: rest) a w :=
  wpListIn_store_row hgd 46 x y ho g 0 #[.int .i64 x1, .int .i64 x2] hx hy (there_block hg (by simp)) (by kernel_rfl) (by simp [Value.oneCell']) (h _ (put_cells g 0 [.int .i64 x1, .int .i64 x2] w) (set_pair46 hg))
theorem ands_ok {r s : Rg} (h : okG (ands r s) = true) : okG r = true := by
  obtain ⟨y, hy⟩ := okG_iff.1 h
  exact okG_iff.2 ⟨y, (in_ands.1 hy).1⟩
theorem fold_ok : ∀ (l : List Rg) (r : Rg), okG (l.foldl ands r) = true → okG r = true
  | [], _, h => h
  | a :: l, r, h => ands_ok (fold_ok l _ h)
theorem fold_pre {l m : List Rg} {r : Rg} (h : l <+: m) (hf : okG (l.foldl ands r) = false) : okG (m.foldl ands r) = false := by
  obtain ⟨t, rfl⟩ := h
  rw [List.foldl_append]
  cases e : okG (t.foldl ands (l.foldl ands r)) with
  | false => rfl
  | true => rw [fold_ok t _ e] at hf; cases hf
theorem val0_ok {R : Rd} (hR : RdOk R) {s : Nat} (hs : s < R.smp.length) : okG (val0 R s) = true := by
  have h1 := hR.lot _ (rg_mem (hR.lotN hs).1)
  have h2 := hR.sp
  exact decide_eq_true (by simp only [val0, wid]; omega)
theorem val_bd {R : Rd} (hR : RdOk R) {off : Nat → Bool} {s : Nat} (hs : s < R.smp.length) (h : okG (valR R off s) = true) : -100 ≤ (valR R off s).lo ∧ (valR R off s).lo ≤ (valR R off s).hi ∧ (valR R off s).hi ≤ 1100 := by
  have h0 : (valR R off s).lo ≤ (valR R off s).hi := of_decide_eq_true h
  have h1 := (in_val.1 (show InR (valR R off s) (valR R off s).lo from ⟨Int.le_refl _, h0⟩)).1
  have h2 := (in_val.1 (show InR (valR R off s) (valR R off s).hi from ⟨h0, Int.le_refl _⟩)).1
  have h3 := hR.lot _ (rg_mem (hR.lotN hs).1)
  have h4 := hR.sp
  simp only [InR, val0, wid] at h1 h2
  omega
theorem valsF_succ (R : Rd) (off : Nat → Bool) (k : Nat) : valsF R off (k + 1) = valsF R off k ++ [valR R off k] := by simp [valsF, List.range_succ]
theorem valsF_len (R : Rd) (off : Nat → Bool) (k : Nat) : (valsF R off k).length = k := by simp [valsF]

/-- What is left of lots and samples, or that some sample has no value. -/
def NarP (R : Rd) (off : Nat → Bool) (w : World) (e : Ending) (w' : World) : Prop :=
  ∃ gl cl sa sc k, e = .returned (.tuple #[.slice (some ⟨gl, 0, none⟩) R.lots.length cl, .slice sa k sc]) ∧
    ((k = R.smp.length ∧ (∀ s, s < R.smp.length → okG (valR R off s) = true) ∧ w.heap.size ≤ gl ∧ w'.ownsRow w.heap.size 46 2 (.slice (some ⟨gl, 0, none⟩) R.lots.length cl) R.lots.length (flatR (lotsF R off R.smp.length)) ∧
      w'.ownsRow (gl + 1) 46 2 (.slice sa k sc) k (flatR (valsF R off k))) ∨ (k < R.smp.length ∧ ∃ s, s < R.smp.length ∧ okG (valR R off s) = false))

theorem there_ownR {w : World} {base g cap n q : Nat} {xs : List Value} (h : w.ownsRow base 46 2 (.slice (some ⟨g, 0, none⟩) n cap) n xs) (hq : q < n) : w.there g (q * 2) 2 := by
  rcases h.2 with ⟨hv, _⟩ | ⟨g', c', cur, hv, hb, hg, hn', hc, hs, ht⟩
  · cases hv
  cases hv
  exact fun j hj => ⟨by rw [cell_of_row w g _ _ _ _ hg]; simp; omega, frozen_of_row w g _ _ _ hg⟩
end Go.Proofs.Ytpdkgnfblnblbaa
