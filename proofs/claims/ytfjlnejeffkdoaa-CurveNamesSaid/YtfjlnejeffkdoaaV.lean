/- The choices at a drop: a contract. -/
import Derived.Test.YtfjlnejeffkdoaaU
namespace Go.Proofs.Ytfjlnejeffkdoaa
open Go.RowKit Go.Shelf

theorem int_info : ∃ i z, Try.prog.info? 3 = some i ∧ i.zero = some z ∧ i.size = 1 ∧ i.bytes = 8 ∧ z.cells.size = 1 := by
  have h1 : (Try.prog.info? 3).map (·.size) = some 1 := by kernel_rfl
  have h2 : (Try.prog.info? 3).map (·.bytes) = some 8 := by kernel_rfl
  have h3 : ((Try.prog.info? 3).bind (·.zero)).map (·.cells.size) = some 1 := by kernel_rfl
  cases h : Try.prog.info? 3 with
  | none => simp [h] at h1
  | some i =>
    cases hz : i.zero with
    | none => simp [h, hz] at h3
    | some z =>
      simp [h, hz] at h1 h2 h3
      exact ⟨i, z, rfl, hz, h1, h2, h3⟩

/-- One number more, behind a slice of one's own. -/
theorem append_one (W : World) (base n ty : Nat) (v : Value) (xs : List Value) (y : Int) (hown : W.ownsRow base 3 1 v n xs) (hb : base ≤ W.heap.size) (hn : n ≤ 100) :
    ∃ v' w', (Builtin.append_ #[27, 27] ty #[v, .slice (some ⟨W.heap.size, 0, none⟩) 1 1]).run Try.prog (W.alloc (.cells #[.int .i64 y] 3 (0, 0))) = .ok v' w' ∧ w'.ownsRow base 3 1 v' (n + 1) (xs ++ [.int .i64 y]) ∧ Below base W w' := by
  obtain ⟨i, z, hi, hz, hs, hby, hzs⟩ := int_info
  have hg : World.grownBy W (W.alloc (.cells #[.int .i64 y] 3 (0, 0))) none := ⟨rfl, rfl, rfl, by simp, fun k hk _ => heap_alloc_low _ _ _ hk⟩
  have hltv : ∀ g, v.ownBlock = some g → g < W.heap.size := fun g hgv => by
    rcases hown.2 with ⟨hv, _⟩ | ⟨g', _, _, hv, _, hgg, _⟩
    · rw [hv] at hgv; simp [Value.ownBlock] at hgv
    · rw [hv] at hgv
      simp [Value.ownBlock] at hgv
      subst hgv
      exact lt_of_block hgg
  have hgev : ∀ g, v.ownBlock = some g → base ≤ g := fun g hgv => by
    rcases hown.2 with ⟨hv, _⟩ | ⟨g', _, _, hv, hbg, _, _⟩
    · rw [hv] at hgv; simp [Value.ownBlock] at hgv
    · rw [hv] at hgv
      simp [Value.ownBlock] at hgv
      subst hgv
      exact hbg
  have hown' := hown.kept hg (by cases h : v.ownBlock <;> simp)
  obtain ⟨v', w', hrun, h1, h2, -⟩ := run_append_own (P := Try.prog) (W.alloc (.cells #[.int .i64 y] 3 (0, 0))) base 27 ty 3 i z 1 8 Try.underlying27 hi hz hs hby hzs (by omega) v n xs hown' ⟨W.heap.size, 0, none⟩ 1 1 [.int .i64 y] rfl
    (fun j u hj => by
      obtain rfl : j = 0 := by
        rcases j with _ | j
        · rfl
        · simp at hj
      have := cell_of_row _ W.heap.size 0 _ _ _ (heap_alloc_new W (.cells #[.int .i64 y] 3 (0, 0)))
      simp at hj
      subst hj
      simp [Addr.add])
    (by simp [Value.oneCell']) (by simp [maxLen]; omega) (by omega) (by simp; omega)
  refine ⟨v', w', hrun, h1, ?_⟩
  exact ⟨h2.os, h2.tape, h2.output, Nat.le_trans (by simp) h2.size, fun k hk => (h2.block k (by simp; omega) (fun e => by have := hgev k e.symm; omega)).trans (heap_alloc_low _ _ _ (by omega))⟩

theorem exec_append_one {a : Act} {o : Oper} {W : World} (s x : Operand) (ho : o.op = .call { callee := .builtin .append, args := #[s, x], argTypes := #[27, 27] }) (base n : Nat) (v : Value) (xs : List Value) (y : Int)
    (hs : a.eval s = v) (hx : a.eval x = .slice (some ⟨W.heap.size, 0, none⟩) 1 1) (hown : W.ownsRow base 3 1 v n xs) (hb : base ≤ W.heap.size) (hn : n ≤ 100) :
    ∃ v' w', (execOp a.eval o).run Try.prog (W.alloc (.cells #[.int .i64 y] 3 (0, 0))) = .ok (.value v') w' ∧ w'.ownsRow base 3 1 v' (n + 1) (xs ++ [.int .i64 y]) ∧ Below base W w' := by
  obtain ⟨v', w', hrun, h1, h2⟩ := append_one W base n o.type v xs y hown hb hn
  refine ⟨v', w', ?_, h1, h2⟩
  simp [execOp, ho, resolve, invoke, builtin, hs, hx, hrun, Result.andThen]

theorem wpList_append_one {ops : Array Oper} {rest : List Oper} {o : Oper} {a : Act} {Q : Exit → Act → World → Prop} {W : World} (hgd : o.guard = none) (s x : Operand) (ho : o.op = .call { callee := .builtin .append, args := #[s, x], argTypes := #[27, 27] }) (base n : Nat) (v : Value) (xs : List Value) (y : Int)
    (hs : a.eval s = v) (hx : a.eval x = .slice (some ⟨W.heap.size, 0, none⟩) 1 1) (hown : W.ownsRow base 3 1 v n xs) (hb : base ≤ W.heap.size) (hn : n ≤ 100)
    (h : ∀ v' w', w'.ownsRow base 3 1 v' (n + 1) (xs ++ [.int .i64 y]) → Below base W w' → wpList Try.prog ops Q rest (a.put o.dst v') w') : wpList Try.prog ops Q (o :: rest) a (W.alloc (.cells #[.int .i64 y] 3 (0, 0))) := by
  obtain ⟨v', w', hr, h1, h2⟩ := exec_append_one s x ho base n v xs y hs hx hown hb hn
  refine wpList_plain hgd fun K hK => ?_
  unfold Oper.wp
  rw [hr]
  exact hK _ _ (h v' w' h1 h2)
theorem box4 (w : World) (A B C D : Obj) : ((((w.alloc A).alloc B).alloc C).alloc D).heap[w.heap.size]? = some A ∧ ((((w.alloc A).alloc B).alloc C).alloc D).heap[w.heap.size + 1]? = some B ∧ ((((w.alloc A).alloc B).alloc C).alloc D).heap[w.heap.size + 1 + 1 + 1]? = some D ∧ Below w.heap.size w ((((w.alloc A).alloc B).alloc C).alloc D) := by
  obtain ⟨h0, h1, _⟩ := box3 w A B C
  have h3 := heap_alloc_new (((w.alloc A).alloc B).alloc C) D
  simp only [World.size_alloc] at h3
  exact ⟨by rw [heap_alloc_low _ _ _ (by simp <;> omega)]; exact h0, by rw [heap_alloc_low _ _ _ (by simp <;> omega)]; exact h1, h3, (below3 w A B C).alloc (by simp; omega) D⟩

theorem Tail.append_one {ops : Array Oper} {S : World → Prop} {Q : Exit → Act → World → Prop} {τ : List Nat} {i : Nat} {o : Oper} {a : Act} {W : World} (hoi : ops[i]? = some o) (hw : Region.wanted o (yielded ops a.tmps) = true) (s x : Operand) (ho : o.op = .call { callee := .builtin .append, args := #[s, x], argTypes := #[27, 27] }) (base n : Nat) (v : Value) (xs : List Value) (y : Int)
    (hs : a.eval s = v) (hx : a.eval x = .slice (some ⟨W.heap.size, 0, none⟩) 1 1) (hown : W.ownsRow base 3 1 v n xs) (hb : base ≤ W.heap.size) (hn : n ≤ 100)
    (h : ∀ v' w', w'.ownsRow base 3 1 v' (n + 1) (xs ++ [.int .i64 y]) → Below base W w' → S w' ∧ Tail Try.prog ops S Q τ (a.put o.dst v') w') : Tail Try.prog ops S Q (i :: τ) a (W.alloc (.cells #[.int .i64 y] 3 (0, 0))) := by
  obtain ⟨v', w', hr, h1, h2⟩ := exec_append_one s x ho base n v xs y hs hx hown hb hn
  exact Tail.grows hoi hw hr (h v' w' h1 h2).1 (h v' w' h1 h2).2

theorem ownsRow_mono {w : World} {b b' : Nat} {e : TypeId} {size : Nat} {v : Value} {n : Nat} {xs : List Value} (hb : b ≤ b') (h : w.ownsRow b' e size v n xs) : w.ownsRow b e size v n xs :=
  ⟨h.1, h.2.elim .inl fun ⟨g, cap, cur, h1, h2, h3⟩ => .inr ⟨g, cap, cur, h1, Nat.le_trans hb h2, h3⟩⟩

def dropCh (ps : List Pt) (r : Rl) (fl : Int) (i : Nat) : List Int :=
  [(pt ps i).lo, (pt ps i).hi] ++ (if i = 0 then [] else [fl - r.d + 1]) ++ (if i + 1 < ps.length then [(pt ps (i + 1)).lo + r.d] else [])

set_option maxRecDepth 100000 in
set_option maxHeartbeats 2000000 in
theorem drop_choices (b off cap : Nat) (ps : List Pt) (r : Rl) (fa fl : Int) (i : Nat) (w : World) (F : Sane ps r) (hi : i < ps.length) (hfa : fa = (i : Int) - 1) (hfl : Small fl) (hp : PtsIn w b off ps) :
    Calls Try.prog 94 #[.agg #[.slice (some ⟨b, off, none⟩) ps.length cap, .int .i64 r.d, .int .i64 r.k, .int .i64 r.o], .agg #[.int .i64 fa, .int .i64 fl]] w fun e w' =>
      ∃ v, e = .returned v ∧ w'.ownsRow w.heap.size 3 1 v (dropCh ps r fl i).length ((dropCh ps r fl i).map (Value.int .i64)) ∧ Below w.heap.size w w' := by
  have hlt : b < w.heap.size := block_lt_of_cell (hp 0 F.pos).1
  have hB := below2 w (.cells #[.slice (some ⟨b, off, none⟩) ps.length cap, .int .i64 r.d, .int .i64 r.k, .int .i64 r.o] 94 (0, 0)) (.cells #[.int .i64 fa, .int .i64 fl] 151 (0, 0))
  have p0 := (hB.cell (p := ⟨b, off + i * 3, none⟩) hlt).trans (hp i hi).1
  have p1 := (hB.cell (p := ⟨b, off + i * 3 + 1, none⟩) hlt).trans (hp i hi).2.1
  have p2 := (hB.cell (p := ⟨b, off + i * 3 + 2, none⟩) hlt).trans (hp i hi).2.2
  obtain ⟨b0, b1, b3, hB4⟩ := box4 w (.cells #[.slice (some ⟨b, off, none⟩) ps.length cap, .int .i64 r.d, .int .i64 r.k, .int .i64 r.o] 94 (0, 0)) (.cells #[.int .i64 fa, .int .i64 fl] 151 (0, 0)) (.cells #[.int .i64 (pt ps i).lo, .int .i64 (pt ps i).hi] 51 (0, 0)) (.cells #[.int .i64 (pt ps i).lo, .int .i64 (pt ps i).hi] 3 (0, 0))
  have q0 : Hid (i + 1 < ps.length → _) := Lib.hid fun h => (hB4.cell (p := ⟨b, off + (i + 1) * 3 + 1, none⟩) hlt).trans (hp (i + 1) h).2.1
  have own := Lib.hid (show World.ownsRow _ (w.heap.size + 1 + 1 + 1) 3 1 (.slice (some ⟨w.heap.size + 1 + 1 + 1, 0, none⟩) 2 2) 2 [.int .i64 (pt ps i).lo, .int .i64 (pt ps i).hi] from ⟨rfl, .inr ⟨_, 2, _, rfl, Nat.le_refl _, b3, Nat.le_refl _, by simp [maxLen], rfl, rfl⟩⟩)
  have HB4 := Lib.hid hB4
  have B0 := Lib.hid b0
  have B1 := Lib.hid b1
  clear hB4 b0 b1
  have hlo1 : i + 1 < ps.length → 0 ≤ (pt ps (i + 1)).lo ∧ (pt ps (i + 1)).lo ≤ 100000 := fun h => by have := F.lo (i + 1) h; omega
  have hlen := F.len
  have hd := F.d
  obtain ⟨f1, f2⟩ := hfl
  unfold dropCh
  clear F hp
  have hiI : (i : Int) < ps.length := by omega
  subst hfa
  have hw1 : IntKind.i64.wrap ((i : Int) - 1 + 1) = (i : Int) := by rw [IntWalk.i64_in _ (by omega)]; omega
  generalize r.d = d at *
  generalize r.k = k at *
  generalize r.o = o at *
  generalize (pt ps (i + 1)).lo = lo1 at *
  generalize (pt ps i).lo = lo at *
  generalize (pt ps i).hi = hi' at *
  generalize ps.length = n at *
  have B3 := Lib.hid b3
  clear b3
  by_cases hi0 : i = 0
  · have g1 : (((i : Int) - 1) == -1) = true := by simp; omega
    have g2 : (((i : Int) - 1) != -1) = false := by simp; omega
    have HI0 := Lib.hid hi0
    clear hi0
    by_cases hn1 : i + 1 < n
    · skip
      have hw2 : IntKind.i64.wrap ((i : Int) + 1) = (i : Int) + 1 := IntWalk.i64_in _ (by omega)
      have hp2 : (0 : Int) ≤ (i : Int) + 1 := by omega
      have hl2 : ((i : Int) + 1 < n) := by omega
      have ht2 : ((i : Int) + 1).toNat = i + 1 := by omega
      have hl1 := hlo1 hn1
      have hw3 : IntKind.i64.wrap (lo1 + d) = lo1 + d := IntWalk.i64_in _ (by omega)
      go_enter Try.func94, Try.ntmps94
      go_wp2_with (first
        | (refine Great.wpList_buildSliceTo rfl 27 3 2 _ rfl (w.heap.size + 1 + 1 + 1) (by simp) _ rfl Try.underlying27 #[.int .i64 lo, .int .i64 hi'] (by kernel_rfl) ?_
           generalize World.alloc (World.alloc (World.alloc (World.alloc w _) _) _) _ = W at *
           have HA := B0.out
           have HB := B1.out
           have hNW : w.heap.size + 1 + 1 + 1 < W.heap.size := lt_of_block B3.out
           have c0 := cell_of_row W _ 0 _ _ _ HA
           have c1 := cell_of_row W _ 1 _ _ _ HA
           have e0 := cell_of_row W _ 0 _ _ _ HB
           have e1 := cell_of_row W _ 1 _ _ _ HB
           simp at c0 c1 e0 e1
           clear HA HB)
        | fail)
      have hNV : (w.heap.size + 1 + 1 + 1) ≤ W.heap.size := Nat.le_trans (Nat.le_of_lt hNW) (Below.refl (w.heap.size + 1 + 1 + 1) W).size
      have hbV : b < (w.heap.size + 1 + 1 + 1) := by omega
      have HC : Hid (∀ w1, Below (w.heap.size + 1 + 1 + 1) W w1 → w1.cell? ⟨w.heap.size, 0, none⟩ = some (.slice (some ⟨b, off, none⟩) n cap) ∧ w1.cell? ⟨w.heap.size, 1, none⟩ = some (.int .i64 d) ∧ w1.cell? ⟨b, off + (i + 1) * 3 + 1, none⟩ = some (.int .i64 lo1)) := Lib.hid fun w1 hS => by
        have hS' := (Below.refl (w.heap.size + 1 + 1 + 1) W).trans hS
        have x0 := (hS'.block w.heap.size (by omega)).trans B0.out
        have y0 := cell_of_row w1 _ 0 _ _ _ x0
        have y1 := cell_of_row w1 _ 1 _ _ _ x0
        exact ⟨y0, y1, (hS'.cell (p := ⟨b, off + (i + 1) * 3 + 1, none⟩) hbV).trans (q0.out hn1)⟩
      refine wp_region_noPanic ?_
      refine wp_region_chain (fun w1 => Below (w.heap.size + 1 + 1 + 1) W w1) (fun w1 w2 h hb => h.trans (hb.mono (Nat.le_trans hNV h.size))) ((below_drawn _).mono hNV) (by kernel_rfl) (fun _ _ _ _ _ h => h)
        [(false, 0), (false, 1), (false, 2), (false, 3), (false, 4), (false, 5), (false, 6), (false, 7), (false, 8), (false, 9), (false, 10), (false, 11), (false, 12), (false, 13)] [14, 15, 16] (by kernel_rfl) ?_
      iterate 14
        (refine Walk.takes rfl rfl ?_; apply Exists.intro; refine ⟨fun w1 hS => ?_, ?_⟩; (obtain ⟨d0, d1, d2⟩ := HC.out w1 hS; go_simp; with_reducible rfl); simp only [List.getElem_toArray, List.getElem_cons_succ, List.getElem_cons_zero, Act.put, List.setIfInBounds_toArray, List.set_cons_zero, List.set_cons_succ])
      refine Walk.fin ?_
      rintro w4 hb4 hS4
      have hb5 : Below W.heap.size W w4 := (below_drawn W).trans hb4
      have own4 := own.out.kept (w' := w4) (row := none) ⟨hb5.os, hb5.tape, hb5.output, hb5.size, fun k hk _ => hb5.block k hk⟩ (Classical.em _)
      have hN4 := Nat.le_trans hNV hS4.size
      have hS6 : Below (w.heap.size + 1 + 1 + 1) W (w4.alloc (.cells #[.int .i64 (lo1 + d)] 3 (0, 0))) := hS4.alloc hN4 _
      refine Tail.grows rfl rfl (exec_buildSlice 27 3 1 _ rfl Try.underlying27 #[.int .i64 (lo1 + d)] (by kernel_rfl)) hS6 ?_
      simp only [List.getElem_toArray, List.getElem_cons_succ, List.getElem_cons_zero, Act.put, List.setIfInBounds_toArray, List.set_cons_zero, List.set_cons_succ]
      refine Tail.append_one rfl rfl (.tmp 43) (.tmp 57) rfl (w.heap.size + 1 + 1 + 1) 2 _ _ (lo1 + d) rfl rfl own4 hN4 (by omega) ?_
      rintro v5 w5 own5 hb6
      refine ⟨hS4.trans hb6, ?_⟩
      simp only [List.getElem_toArray, List.getElem_cons_succ, List.getElem_cons_zero, Act.put, List.setIfInBounds_toArray, List.set_cons_zero, List.set_cons_succ]
      refine Tail.value rfl rfl rfl (Tail.done (NoPanic.normal ?_))
      simp only [List.getElem_toArray, List.getElem_cons_succ, List.getElem_cons_zero, Act.put, List.setIfInBounds_toArray, List.set_cons_zero, List.set_cons_succ]
      have hW5 := Lib.hid ((Below.refl (w.heap.size + 1 + 1 + 1) W).trans (hS4.trans hb6))
      have O5 := Lib.hid own5
      clear hb6 own5 own4 hS6 hS4 hb4 hb5
      go_wp2
      go_ret
      refine ⟨_, rfl, ?_, HB4.out.trans (hW5.out.mono (by omega))⟩
      have := ownsRow_mono (show w.heap.size ≤ (w.heap.size + 1 + 1 + 1) by omega) O5.out
      have hi0 := HI0.out
      have hn1' : 1 < n := by omega
      subst hi0
      simpa [hn1, hn1'] using this
    · skip
      have hw2 : IntKind.i64.wrap ((i : Int) + 1) = (i : Int) + 1 := IntWalk.i64_in _ (by omega)
      have hp2 : (0 : Int) ≤ (i : Int) + 1 := by omega
      have hl2 : ¬ ((i : Int) + 1 < n) := by omega
      have ht2 : ((i : Int) + 1).toNat = i + 1 := by omega
      go_enter Try.func94, Try.ntmps94
      go_wp2_with (first
        | (refine Great.wpList_buildSliceTo rfl 27 3 2 _ rfl (w.heap.size + 1 + 1 + 1) (by simp) _ rfl Try.underlying27 #[.int .i64 lo, .int .i64 hi'] (by kernel_rfl) ?_
           generalize World.alloc (World.alloc (World.alloc (World.alloc w _) _) _) _ = W at *
           have HA := B0.out
           have HB := B1.out
           have hNW : w.heap.size + 1 + 1 + 1 < W.heap.size := lt_of_block B3.out
           have c0 := cell_of_row W _ 0 _ _ _ HA
           have c1 := cell_of_row W _ 1 _ _ _ HA
           have e0 := cell_of_row W _ 0 _ _ _ HB
           have e1 := cell_of_row W _ 1 _ _ _ HB
           simp at c0 c1 e0 e1
           clear HA HB)
        | fail)
      have hW5 := Lib.hid (Below.refl (w.heap.size + 1 + 1 + 1) W)
      go_ret
      refine ⟨_, rfl, ?_, HB4.out.trans (hW5.out.mono (by omega))⟩
      have := ownsRow_mono (show w.heap.size ≤ (w.heap.size + 1 + 1 + 1) by omega) own.out
      have hi0 := HI0.out
      have hn1' : ¬ 1 < n := by omega
      subst hi0
      simpa [hn1, hn1'] using this
  · have g1 : (((i : Int) - 1) == -1) = false := by simp; omega
    have g2 : (((i : Int) - 1) != -1) = true := by simp; omega
    by_cases hn1 : i + 1 < n
    · skip
      have hw2 : IntKind.i64.wrap ((i : Int) + 1) = (i : Int) + 1 := IntWalk.i64_in _ (by omega)
      have hp2 : (0 : Int) ≤ (i : Int) + 1 := by omega
      have hl2 : ((i : Int) + 1 < n) := by omega
      have ht2 : ((i : Int) + 1).toNat = i + 1 := by omega
      have hl1 := hlo1 hn1
      have hw3 : IntKind.i64.wrap (lo1 + d) = lo1 + d := IntWalk.i64_in _ (by omega)
      go_enter Try.func94, Try.ntmps94
      go_wp2_with (first
        | (refine Great.wpList_buildSliceTo rfl 27 3 2 _ rfl (w.heap.size + 1 + 1 + 1) (by simp) _ rfl Try.underlying27 #[.int .i64 lo, .int .i64 hi'] (by kernel_rfl) ?_
           generalize World.alloc (World.alloc (World.alloc (World.alloc w _) _) _) _ = W at *
           have HA := B0.out
           have HB := B1.out
           have hNW : w.heap.size + 1 + 1 + 1 < W.heap.size := lt_of_block B3.out
           have c0 := cell_of_row W _ 0 _ _ _ HA
           have c1 := cell_of_row W _ 1 _ _ _ HA
           have e0 := cell_of_row W _ 0 _ _ _ HB
           have e1 := cell_of_row W _ 1 _ _ _ HB
           simp at c0 c1 e0 e1
           clear HA HB)
        | (refine Great.wpList_buildSliceTo rfl 27 3 1 _ rfl _ rfl _ rfl Try.underlying27 #[.int .i64 (fl - d + 1)] (by kernel_rfl) ?_)
        | (refine wpList_append_one rfl (.tmp 26) (.tmp 34) rfl (w.heap.size + 1 + 1 + 1) 2 _ _ (fl - d + 1) rfl rfl (by exact own.out) (Nat.le_of_lt hNW) (by omega) ?_
           intro v' w' hv' hbw'
           have own' := Lib.hid hv'
           have HBw' := Lib.hid hbw'
           have HA' := (hbw'.block w.heap.size (by omega)).trans B0.out
           have HB' := (hbw'.block (w.heap.size + 1) (by omega)).trans B1.out
           clear c0 c1 e0 e1 hv' hbw'
           have c0' := cell_of_row w' _ 0 _ _ _ HA'
           have c1' := cell_of_row w' _ 1 _ _ _ HA'
           have e0' := cell_of_row w' _ 0 _ _ _ HB'
           have e1' := cell_of_row w' _ 1 _ _ _ HB'
           simp at c0' c1' e0' e1'
           clear HA' HB')
        | fail)
      have hNV : (w.heap.size + 1 + 1 + 1) ≤ w'.heap.size := Nat.le_trans (Nat.le_of_lt hNW) HBw'.out.size
      have hbV : b < (w.heap.size + 1 + 1 + 1) := by omega
      have HC : Hid (∀ w1, Below (w.heap.size + 1 + 1 + 1) w' w1 → w1.cell? ⟨w.heap.size, 0, none⟩ = some (.slice (some ⟨b, off, none⟩) n cap) ∧ w1.cell? ⟨w.heap.size, 1, none⟩ = some (.int .i64 d) ∧ w1.cell? ⟨b, off + (i + 1) * 3 + 1, none⟩ = some (.int .i64 lo1)) := Lib.hid fun w1 hS => by
        have hS' := HBw'.out.trans hS
        have x0 := (hS'.block w.heap.size (by omega)).trans B0.out
        have y0 := cell_of_row w1 _ 0 _ _ _ x0
        have y1 := cell_of_row w1 _ 1 _ _ _ x0
        exact ⟨y0, y1, (hS'.cell (p := ⟨b, off + (i + 1) * 3 + 1, none⟩) hbV).trans (q0.out hn1)⟩
      refine wp_region_noPanic ?_
      refine wp_region_chain (fun w1 => Below (w.heap.size + 1 + 1 + 1) w' w1) (fun w1 w2 h hb => h.trans (hb.mono (Nat.le_trans hNV h.size))) ((below_drawn _).mono hNV) (by kernel_rfl) (fun _ _ _ _ _ h => h)
        [(false, 0), (false, 1), (false, 2), (false, 3), (false, 4), (false, 5), (false, 6), (false, 7), (false, 8), (false, 9), (false, 10), (false, 11), (false, 12), (false, 13)] [14, 15, 16] (by kernel_rfl) ?_
      iterate 14
        (refine Walk.takes rfl rfl ?_; apply Exists.intro; refine ⟨fun w1 hS => ?_, ?_⟩; (obtain ⟨d0, d1, d2⟩ := HC.out w1 hS; go_simp; with_reducible rfl); simp only [List.getElem_toArray, List.getElem_cons_succ, List.getElem_cons_zero, Act.put, List.setIfInBounds_toArray, List.set_cons_zero, List.set_cons_succ])
      refine Walk.fin ?_
      rintro w4 hb4 hS4
      have hb5 : Below w'.heap.size w' w4 := (below_drawn w').trans hb4
      have own4 := own'.out.kept (w' := w4) (row := none) ⟨hb5.os, hb5.tape, hb5.output, hb5.size, fun k hk _ => hb5.block k hk⟩ (Classical.em _)
      have hN4 := Nat.le_trans hNV hS4.size
      have hS6 : Below (w.heap.size + 1 + 1 + 1) w' (w4.alloc (.cells #[.int .i64 (lo1 + d)] 3 (0, 0))) := hS4.alloc hN4 _
      refine Tail.grows rfl rfl (exec_buildSlice 27 3 1 _ rfl Try.underlying27 #[.int .i64 (lo1 + d)] (by kernel_rfl)) hS6 ?_
      simp only [List.getElem_toArray, List.getElem_cons_succ, List.getElem_cons_zero, Act.put, List.setIfInBounds_toArray, List.set_cons_zero, List.set_cons_succ]
      refine Tail.append_one rfl rfl (.tmp 43) (.tmp 57) rfl (w.heap.size + 1 + 1 + 1) 3 _ _ (lo1 + d) rfl rfl own4 hN4 (by omega) ?_
      rintro v5 w5 own5 hb6
      refine ⟨hS4.trans hb6, ?_⟩
      simp only [List.getElem_toArray, List.getElem_cons_succ, List.getElem_cons_zero, Act.put, List.setIfInBounds_toArray, List.set_cons_zero, List.set_cons_succ]
      refine Tail.value rfl rfl rfl (Tail.done (NoPanic.normal ?_))
      simp only [List.getElem_toArray, List.getElem_cons_succ, List.getElem_cons_zero, Act.put, List.setIfInBounds_toArray, List.set_cons_zero, List.set_cons_succ]
      have hW5 := Lib.hid (HBw'.out.trans (hS4.trans hb6))
      have O5 := Lib.hid own5
      clear hb6 own5 own4 hS6 hS4 hb4 hb5
      go_wp2
      go_ret
      refine ⟨_, rfl, ?_, HB4.out.trans (hW5.out.mono (by omega))⟩
      have := ownsRow_mono (show w.heap.size ≤ (w.heap.size + 1 + 1 + 1) by omega) O5.out
      simpa [hi0, hn1] using this
    · skip
      have hw2 : IntKind.i64.wrap ((i : Int) + 1) = (i : Int) + 1 := IntWalk.i64_in _ (by omega)
      have hp2 : (0 : Int) ≤ (i : Int) + 1 := by omega
      have hl2 : ¬ ((i : Int) + 1 < n) := by omega
      have ht2 : ((i : Int) + 1).toNat = i + 1 := by omega
      go_enter Try.func94, Try.ntmps94
      go_wp2_with (first
        | (refine Great.wpList_buildSliceTo rfl 27 3 2 _ rfl (w.heap.size + 1 + 1 + 1) (by simp) _ rfl Try.underlying27 #[.int .i64 lo, .int .i64 hi'] (by kernel_rfl) ?_
           generalize World.alloc (World.alloc (World.alloc (World.alloc w _) _) _) _ = W at *
           have HA := B0.out
           have HB := B1.out
           have hNW : w.heap.size + 1 + 1 + 1 < W.heap.size := lt_of_block B3.out
           have c0 := cell_of_row W _ 0 _ _ _ HA
           have c1 := cell_of_row W _ 1 _ _ _ HA
           have e0 := cell_of_row W _ 0 _ _ _ HB
           have e1 := cell_of_row W _ 1 _ _ _ HB
           simp at c0 c1 e0 e1
           clear HA HB)
        | (refine Great.wpList_buildSliceTo rfl 27 3 1 _ rfl _ rfl _ rfl Try.underlying27 #[.int .i64 (fl - d + 1)] (by kernel_rfl) ?_)
        | (refine wpList_append_one rfl (.tmp 26) (.tmp 34) rfl (w.heap.size + 1 + 1 + 1) 2 _ _ (fl - d + 1) rfl rfl (by exact own.out) (Nat.le_of_lt hNW) (by omega) ?_
           intro v' w' hv' hbw'
           have own' := Lib.hid hv'
           have HBw' := Lib.hid hbw'
           have HA' := (hbw'.block w.heap.size (by omega)).trans B0.out
           have HB' := (hbw'.block (w.heap.size + 1) (by omega)).trans B1.out
           clear c0 c1 e0 e1 hv' hbw'
           have c0' := cell_of_row w' _ 0 _ _ _ HA'
           have c1' := cell_of_row w' _ 1 _ _ _ HA'
           have e0' := cell_of_row w' _ 0 _ _ _ HB'
           have e1' := cell_of_row w' _ 1 _ _ _ HB'
           simp at c0' c1' e0' e1'
           clear HA' HB')
        | fail)
      have hW5 := Lib.hid HBw'.out
      go_ret
      refine ⟨_, rfl, ?_, HB4.out.trans (hW5.out.mono (by omega))⟩
      have := ownsRow_mono (show w.heap.size ≤ (w.heap.size + 1 + 1 + 1) by omega) own'.out
      simpa [hi0, hn1] using this

end Go.Proofs.Ytfjlnejeffkdoaa
