/- The search: its contract. -/
import Derived.Test.YtfjlnejeffkdoaaV
import Derived.Test.YtfjlnejeffkdoaaY
import Derived.WalkMore
namespace Go.Proofs.Ytfjlnejeffkdoaa
open Go.RowKit Go.Shelf
attribute [local irreducible] arrV
attribute [local go_sem] Oper.semAt_some

theorem built_pl (x y : Int) : Try.prog.builtSlice 151 1 [(0, .agg #[.int .i64 x, .int .i64 y])] = some #[.int .i64 x, .int .i64 y] := by kernel_rfl
theorem u152e : Try.prog.underlying 152 = some (.slice (Try.prog.elem 152)) := by kernel_rfl

section
variable {F : Fence} {n' : Nat} {ops : Array Oper} {rest : List Oper} {o : Oper} {a : Act} {Q : Exit → Act → World → Prop} {w : World}

theorem wpListIn_look_pl (hgd : o.guard = none) (m x : Operand) (ho : o.op = Op.lookup 153 m x true)
    (cm : Nat) (E : List (Plc × Plc)) (hm : a.eval m = .map (some cm)) (hM : MapIs w cm E) (p : Plc) (hx : a.eval x = .agg #[.int .i64 p.1, .int .i64 p.2])
    (kn : Bool) (hkn : (findP E p).isSome = kn)
    (hK : ∀ q : Plc, wpListIn F n' Try.prog ops Q rest (a.put o.dst (.tuple #[.agg #[.int .i64 q.1, .int .i64 q.2], .bool kn])) w) : wpListIn F n' Try.prog ops Q (o :: rest) a w := by
  refine wpListIn_plain hgd fun K' hK' => ?_
  have hrun := (look_pl hM p).1
  have hx' : a.eval x = plV p := hx
  unfold Oper.wpIn
  refine ⟨by simp [Oper.about, ho], ?_⟩
  rw [Oper.semAt_plain F _ _ (by rw [ho]; intro c hc'; cases hc')]
  simp [execOp, ho, hm, hx', hrun, Result.andThen]
  rw [hkn]
  exact hK' _ _ (hK _)

theorem wpListIn_put_pl (hgd : o.guard = none) (m x v : Operand) (ho : o.op = Op.mapUpdate 153 m x v)
    (cm : Nat) (E : List (Plc × Plc)) (hm : a.eval m = .map (some cm)) (hM : MapIs w cm E) (p q : Plc) (hx : a.eval x = .agg #[.int .i64 p.1, .int .i64 p.2]) (hv : a.eval v = .agg #[.int .i64 q.1, .int .i64 q.2])
    (hn : findP E p = none)
    (hK : ∀ o' w', w' = w.putObj cm o' → MapIs w' cm (E ++ [(p, q)]) → wpListIn F n' Try.prog ops Q rest (a.put o.dst undef) w') : wpListIn F n' Try.prog ops Q (o :: rest) a w := by
  refine wpListIn_plain hgd fun K' hK' => ?_
  obtain ⟨w', hrun, h1, o', h2⟩ := put_pl hM p q hn
  have hx' : a.eval x = plV p := hx
  have hv' : a.eval v = plV q := hv
  unfold Oper.wpIn
  refine ⟨by simp [Oper.about, ho], ?_⟩
  rw [Oper.semAt_plain F _ _ (by rw [ho]; intro c hc'; cases hc')]
  simp [execOp, ho, hm, hx', hv', hrun, Result.andThen]
  exact hK' _ _ (hK o' w' h2 h1)

set_option maxRecDepth 100000 in
theorem wpListIn_slice_pl (hgd : o.guard = none) (x : Operand) (ho : o.op = Op.slice 152 x (some (.const (.int .i64 1))) none none) (g off n cap : Nat) (hx : a.eval x = .slice (some ⟨g, off, none⟩) n cap) (hn : 1 ≤ n) (hc : n ≤ cap) (off' : Nat) (ho' : (if cap - 1 = 0 then off else off + 2) = off')
    (hK : wpListIn F n' Try.prog ops Q rest (a.put o.dst (.slice (some ⟨g, off', none⟩) (n - 1) (cap - 1))) w) : wpListIn F n' Try.prog ops Q (o :: rest) a w := by
  refine wpListIn_plain hgd fun K' hK' => ?_
  have hrun := run_slice_pl (w := w) g off n cap hn hc
  have hat := fun x lo => run_sliceAt_slice (P := Try.prog) w 152 x lo none none u152e
  unfold Oper.wpIn
  refine ⟨by simp [Oper.about, ho], ?_⟩
  rw [Oper.semAt_plain F _ _ (by rw [ho]; intro c hc'; cases hc')]
  have h1 : a.eval (.const (.int .i64 1)) = .int .i64 1 := rfl
  unfold execOp
  simp only [ho, Option.map_some, Option.map_none, hx, h1, Sem.run_bind, hat, hrun, Result.andThen_ok, ho']
  exact hK' _ _ hK

theorem wpListIn_append_pl (hgd : o.guard = none) (s x : Operand) (ho : o.op = .call { callee := .builtin .append, args := #[s, x], argTypes := #[152, 152] }) (base : Nat) (v : Value) (l : List Plc) (p : Plc) (ab : Nat)
    (hs : a.eval s = v) (hx : a.eval x = .slice (some ⟨ab, 0, none⟩) 1 1) (hq : Qu w base v l) (hb : base ≤ w.heap.size) (hl : l.length ≤ 4000000000000) (ha : w.cell? ⟨ab, 0, none⟩ = some (.int .i64 p.1)) (ha1 : w.cell? ⟨ab, 1, none⟩ = some (.int .i64 p.2))
    (hK : ∀ v' w', Qu w' base v' (l ++ [p]) → w.grownBy w' v.ownBlock → (v'.ownBlock = v.ownBlock ∨ v'.ownBlock = some w.heap.size) → wpListIn F n' Try.prog ops Q rest (a.put o.dst v') w') : wpListIn F n' Try.prog ops Q (o :: rest) a w := by
  refine wpListIn_plain hgd fun K' hK' => ?_
  obtain ⟨v', w', hrun, r1, r2, r3⟩ := append_pl w base o.type v l p ab hq hb hl ha ha1
  unfold Oper.wpIn
  refine ⟨?_, ?_⟩
  · simp [Oper.about, ho, resolve, Target.leads, Sem.run_pure]
  · rw [Oper.semAt_plain F _ _ (by rw [ho]; intro c hc'; cases hc')]
    simp [execOp, ho, resolve, invoke, builtin, hs, hx, hrun, Result.andThen]
    exact hK' _ _ (hK v' w' r1 r2 r3)

theorem wpListIn_lay (hgd : o.guard = none) (t e : TypeId) (len : Nat) (parts : Array (Nat × Operand)) (ho : o.op = .buildSlice t len parts) (hu : Try.prog.underlying t = some (.slice e)) (cells : Array Value)
    (hf : Try.prog.builtSlice e len (parts.map fun (i, x) => (i, a.eval x)).toList = some cells)
    (hK : wpListIn F n' Try.prog ops Q rest (a.put o.dst (.slice (some ⟨w.heap.size, 0, none⟩) len len)) (w.alloc (.cells cells e))) : wpListIn F n' Try.prog ops Q (o :: rest) a w := by
  refine wpListIn_plain hgd fun K' hK' => ?_
  have hr := exec_buildSlice (P := Try.prog) (a := a) (w := w) t e len parts ho hu cells hf
  unfold Oper.wpIn
  refine ⟨by simp [Oper.about, ho], ?_⟩
  rw [Oper.semAt_plain F _ _ (by rw [ho]; intro c hc'; cases hc'), hr]
  exact hK' _ _ hK

end

/-- What a search asks at each place: which loads come next, and whether it has come to an end. -/
structure Ev (b off cap : Nat) (ps : List Pt) (r : Rl) (gc gh : Nat) (ch : Plc → List Int) (hp : Plc → Plc → Bool) : Prop where
  ec : ∀ args w, (callFunc gc args).run Try.prog w = .ok (.enter gc args) w
  eh : ∀ args w, (callFunc gh args).run Try.prog w = .ok (.enter gh args) w
  c : ∀ (i : Nat) (fl : Int) (w : World), i < ps.length → Small fl → PtsIn w b off ps → Calls Try.prog gc #[.agg #[.slice (some ⟨b, off, none⟩) ps.length cap, .int .i64 r.d, .int .i64 r.k, .int .i64 r.o], .agg #[.int .i64 ((i : Int) - 1), .int .i64 fl]] w fun e w' =>
    ∃ B c, e = .returned (.slice (some ⟨B, 0, none⟩) (ch ((i : Int) - 1, fl)).length c) ∧ IntsIn w' B 0 (ch ((i : Int) - 1, fl)) ∧ w.heap.size ≤ B ∧ B < w'.heap.size ∧ Below w.heap.size w w'
  h : ∀ (i : Nat) (fl tl : Int) (w : World), i < ps.length → Small fl → Small tl → PtsIn w b off ps → Calls Try.prog gh #[.agg #[.slice (some ⟨b, off, none⟩) ps.length cap, .int .i64 r.d, .int .i64 r.k, .int .i64 r.o], .agg #[.int .i64 ((i : Int) - 1), .int .i64 fl], .agg #[.int .i64 i, .int .i64 tl]] w fun e w' =>
    e = .returned (.bool (hp ((i : Int) - 1, fl) ((i : Int), tl))) ∧ Below w.heap.size w w'
  len : ∀ p, (ch p).length ≤ 4

/-- What the memory holds while the search goes on. -/
structure Inn (T : Nat → Prop) (J : List (List Int) → World → Prop) (W : World) (Br Be b off cap : Nat) (ps : List Pt) (r : Rl) (gc gh : Nat) (v : Value) (s : St) (A : World) : Prop where
  box : Box A Br b off cap ps r
  ev : A.heap[Be]? = some (.cells #[.func (.func gc) #[] #[], .func (.func gh) #[] #[]] 149 (0, 0))
  q : Qu A W.heap.size v s.opn
  m : MapIs A (W.heap.size + 1) s.came
  j : J s.ys A
  but : But T W A
  ok : OkS ps s

theorem Qu.block {A B : World} {base : Nat} {v : Value} {l : List Plc} (h : Qu A base v l) (hb : ∀ k, base ≤ k → k < A.heap.size → B.heap[k]? = A.heap[k]?) : Qu B base v l := by
  obtain ⟨g, o, cap, cur, h1, h2, h3, h4⟩ := h
  exact ⟨g, o, cap, cur, h1, h2, (hb g h2 (lt_of_block h3)).trans h3, h4⟩

theorem Inn.step {T : Nat → Prop} {J : List (List Int) → World → Prop} {W : World} {Br Be b off cap : Nat} {ps : List Pt} {r : Rl} {gc gh : Nat} {v : Value} {s : St} {A B : World} (h : Inn T J W Br Be b off cap ps r gc gh v s A)
    (hnBr : ¬ T Br) (hnb : ¬ T b) (hnBe : ¬ T Be) (hnew : ∀ k, W.heap.size ≤ k → ¬ T k) {ys : List (List Int)} (hb : But T A B) (hj : J ys B) : Inn T J W Br Be b off cap ps r gc gh v ⟨s.opn, s.came, ys⟩ B where
  box := h.box.but hb hnBr hnb
  ev := (hb.block Be (lt_of_block h.ev) hnBe).trans h.ev
  q := h.q.block fun k hk hl => hb.block k hl (hnew k hk)
  m := h.m.block (hb.block _ h.m.lt (hnew _ (Nat.le_succ _)))
  j := hj
  but := h.but.trans hb
  ok := ⟨h.ok.tree, h.ok.rng, h.ok.opn⟩
theorem Inn.below {T : Nat → Prop} {J : List (List Int) → World → Prop} {W : World} {Br Be b off cap : Nat} {ps : List Pt} {r : Rl} {gc gh : Nat} {v : Value} {s : St} {A B : World} (h : Inn T J W Br Be b off cap ps r gc gh v s A)
    (hnBr : ¬ T Br) (hnb : ¬ T b) (hnBe : ¬ T Be) (hnew : ∀ k, W.heap.size ≤ k → ¬ T k) (hTl : ∀ k, T k → k < W.heap.size) (hJ : ∀ (s : List (List Int)) (A B : World), J s A → Rfree T A B → J s B) (hb : Below A.heap.size A B) : Inn T J W Br Be b off cap ps r gc gh v s B :=
  h.step hnBr hnb hnBe hnew (But.of_below hb) (hJ _ _ _ h.j ⟨hb.size, fun k hk => hb.block k (Nat.lt_of_lt_of_le (hTl k hk) h.but.size)⟩)
theorem Inn.cells {T : Nat → Prop} {J : List (List Int) → World → Prop} {W : World} {Br Be b off cap : Nat} {ps : List Pt} {r : Rl} {gc gh : Nat} {v : Value} {s : St} {A : World} (h : Inn T J W Br Be b off cap ps r gc gh v s A) :
    (A.cell? ⟨Br, 0, none⟩ = some (.slice (some ⟨b, off, none⟩) ps.length cap) ∧ A.cell? ⟨Br, 1, none⟩ = some (.int .i64 r.d) ∧ A.cell? ⟨Br, 2, none⟩ = some (.int .i64 r.k) ∧ A.cell? ⟨Br, 3, none⟩ = some (.int .i64 r.o)) ∧
    (A.cell? ⟨Be, 0, none⟩ = some (.func (.func gc) #[] #[]) ∧ A.cell? ⟨Be, 1, none⟩ = some (.func (.func gh) #[] #[])) ∧ Br < A.heap.size ∧ Be < A.heap.size := by
  have c0 := cell_of_row A Br 0 _ _ _ h.box.blk
  have c1 := cell_of_row A Br 1 _ _ _ h.box.blk
  have c2 := cell_of_row A Br 2 _ _ _ h.box.blk
  have c3 := cell_of_row A Br 3 _ _ _ h.box.blk
  have e0 := cell_of_row A Be 0 _ _ _ h.ev
  have e1 := cell_of_row A Be 1 _ _ _ h.ev
  exact ⟨⟨c0, c1, c2, c3⟩, ⟨e0, e1⟩, lt_of_block h.box.blk, lt_of_block h.ev⟩
theorem pairB {A : World} {B : Nat} {x y : Value} {t : TypeId} (h : A.heap[B]? = some (.cells #[x, y] t (0, 0))) : A.cell? ⟨B, 0, none⟩ = some x ∧ A.cell? ⟨B, 1, none⟩ = some y ∧ B < A.heap.size :=
  ⟨cell_of_row A B 0 _ _ _ h, cell_of_row A B 1 _ _ _ h, lt_of_block h⟩
theorem OkS.place {ps : List Pt} {r : Rl} {s : St} (h : OkS ps s) (F : Sane ps r) {f : Plc} (hf : f = (-1, 0) ∨ (findP s.came f).isSome) (hn : f.1 ≠ (ps.length : Int) - 1) : ∃ i : Nat, f.1 = (i : Int) - 1 ∧ i < ps.length ∧ Small f.2 := by
  rcases hf with rfl | hf
  · exact ⟨0, by decide, F.pos, by decide, by decide⟩
  · obtain ⟨h1, h2, h3⟩ := h.at hf
    have := inR_spec h3
    have := F.lo f.1.toNat (by omega)
    exact ⟨(f.1 + 1).toNat, by omega, by omega, by omega, by omega⟩
theorem Inn.low {T : Nat → Prop} {J : List (List Int) → World → Prop} {W : World} {Br Be b off cap : Nat} {ps : List Pt} {r : Rl} {gc gh : Nat} {v v' : Value} {s s' : St} {A B : World} (h : Inn T J W Br Be b off cap ps r gc gh v s A)
    (hTl : ∀ k, T k → k < W.heap.size) (hJ : ∀ (s : List (List Int)) (A B : World), J s A → Rfree T A B → J s B) (hltb : b < W.heap.size) (hltr : Br < W.heap.size) (hlte : Be < W.heap.size)
    (hb : Below W.heap.size A B) (hq : Qu B W.heap.size v' s'.opn) (hm : MapIs B (W.heap.size + 1) s'.came) (ho : OkS ps s') (hy : s'.ys = s.ys) : Inn T J W Br Be b off cap ps r gc gh v' s' B where
  box := ⟨(hb.block _ hltr).trans h.box.blk, h.box.pts.below hb hltb⟩
  ev := (hb.block _ hlte).trans h.ev
  q := hq
  m := hm
  j := by rw [hy]; exact hJ _ _ _ h.j ⟨hb.size, fun k hk => hb.block k (hTl k hk)⟩
  but := ⟨hb.os.trans h.but.os, hb.tape.trans h.but.tape, hb.output.trans h.but.output, Nat.le_trans h.but.size hb.size, fun k hk hn => (hb.block k hk).trans (h.but.block k hk hn)⟩
  ok := ho
theorem IntsIn.but {T : Nat → Prop} {A B : World} {c : Nat} {L : List Int} (h : IntsIn A c 0 L) (hb : But T A B) (hc : ¬ T c) : IntsIn B c 0 L := fun i hi => hb.cell hc (h i hi)
theorem fold_take {ps : List Pt} {hp : Plc → Plc → Bool} {f : Plc} {s : St} {L : List Int} {q : Nat} (h : q < L.length) : (L.take (q + 1)).foldl (step1 ps hp f) s = step1 ps hp f ((L.take q).foldl (step1 ps hp f) s) (ld L q) := by
  rw [List.take_add_one, List.foldl_append]
  simp [ld, h]
theorem wt_lv (n i : Nat) (hi : i < n) (l : Int) : wt (lv n ((i : Int) - 1, l)) = 4 * wt (n - 1 - i) + 1 := by
  have : lv n ((i : Int) - 1, l) = (n - 1 - i) + 1 := by simp only [lv]; omega
  rw [this, wt]
theorem wt_lv' (n i : Nat) (hi : i < n) (l : Int) : wt (lv n ((i : Int), l)) = wt (n - 1 - i) := by
  have : lv n ((i : Int), l) = (n - 1 - i) := by simp only [lv]; omega
  rw [this]
theorem inR_nat (ps : List Pt) (i : Nat) (l : Int) : inR ps ((i : Int), l) = hasB (pt ps i).lo (pt ps i).hi l := by simp [inR]
theorem Inn.start {T : Nat → Prop} {J : List (List Int) → World → Prop} {W : World} {Br Be b off cap : Nat} {ps : List Pt} {r : Rl} {gc gh : Nat} (hB : Box W Br b off cap ps r) (hlt : b < W.heap.size)
    (hE : W.heap[Be]? = some (.cells #[.func (.func gc) #[] #[], .func (.func gh) #[] #[]] 149 (0, 0))) (hT : ∀ k, T k → k < W.heap.size) (hJ : ∀ (s : List (List Int)) (A B : World), J s A → Rfree T A B → J s B) (h0 : J [] W) :
    Inn T J W Br Be b off cap ps r gc gh (.slice (some ⟨W.heap.size, 0, none⟩) 1 1) ⟨[(-1, 0)], [], []⟩ ((W.alloc (.cells #[.int .i64 (-1), .int .i64 0] 151)).alloc (.map #[] 0)) := by
  obtain ⟨b0, b1⟩ := box2 W (.cells #[.int .i64 (-1), .int .i64 0] 151) (.map #[] 0)
  have hb := below2 W (.cells #[.int .i64 (-1), .int .i64 0] 151) (.map #[] 0)
  exact {
    box := hB.but (But.of_below (T := fun _ => False) hb) id id
    ev := (hb.block Be (lt_of_block hE)).trans hE
    q := ⟨W.heap.size, 0, 1, _, rfl, Nat.le_refl _, b0, by simp, by simp [maxLen], by simp, by simp [flatP]⟩
    m := ⟨_, _, b1, rfl⟩
    j := hJ _ _ _ h0 ⟨hb.size, fun k hk => hb.block k (hT k hk)⟩
    but := But.of_below hb
    ok := ⟨fun p q h => by simp [findP] at h, fun p q h => by simp [findP] at h, fun p hp => .inl (by simpa using hp)⟩ }

set_option maxRecDepth 100000 in
set_option maxHeartbeats 2000000 in
theorem search_seq (gc gh Br Be b off cap : Nat) (ps : List Pt) (r : Rl) (ch : Plc → List Int) (hp : Plc → Plc → Bool) (w : World) (F : Sane ps r) (EV : Ev b off cap ps r gc gh ch hp) (hB : Box w Br b off cap ps r)
    (hE : w.heap[Be]? = some (.cells #[.func (.func gc) #[] #[], .func (.func gh) #[] #[]] 149 (0, 0))) (hlo : IsTr ps (lowT ps)) :
    SeqT Try.prog 100 #[.pointer (some ⟨Br, 0, none⟩), .pointer (some ⟨Be, 0, none⟩)] (fun t : List Int => #[Value.agg (arrV t)]) (IsTr ps) Rfree Never (TCx (fun k => k = Br ∨ k = b ∨ k = Be)) (fun xs => xs = searchL ps ch hp) (fun _ => True) w := by
  intro l T J Jx W hW hTC hJ hJx hY h0
  have hBW : Box W Br b off cap ps r := hB.but (But.of_below (T := fun _ => False) hW) id id
  have hEW := (hW.block Be (lt_of_block hE)).trans hE
  have hnBr : ¬ T Br := fun h => (hTC Br h).2 (.inl rfl)
  have hnb : ¬ T b := fun h => (hTC b h).2 (.inr (.inl rfl))
  have hnBe : ¬ T Be := fun h => (hTC Be h).2 (.inr (.inr rfl))
  have hnew : ∀ k, W.heap.size ≤ k → ¬ T k := fun k hk h => by have := (hTC k h).1; omega
  refine callsIn_of_wp Try.func100 rfl trivial ?_ rfl
  simp only [Try.ntmps100, List.size_toArray, List.length_cons, List.length_nil, Nat.reduceAdd, Nat.reduceSub, Array.replicate_succ, Array.replicate_zero, List.push_toArray, List.append_toArray, List.nil_append, List.cons_append]
  have hmm := @run_makeMap Try.prog
  refine wpIn_wide.2 (wp_scope_straight ((wpIn_wide (n := 0)).1 ?_))
  gi_wp2_with (first
    | (refine wpListIn_lay rfl 152 151 1 #[(0, .tmp 12)] rfl u152 #[.int .i64 (-1), .int .i64 0] (by kernel_rfl) ?_)
    | fail)
  refine wpIn_label ?_
  gi_wp2
  have hTl : ∀ k, T k → k < W.heap.size := fun k h => (hTC k h).1
  have hltb : b < W.heap.size := block_lt_of_cell (hBW.pts 0 F.pos).1
  have HS := Lib.hid (Inn.start hBW hltb hEW hTl hJ h0)
  have hsz0 : W.heap.size + 2 ≤ ((W.alloc (.cells #[.int .i64 (-1), .int .i64 0] 151)).alloc (.map #[] 0)).heap.size := by simp
  have HZ := Lib.hid hsz0
  clear hsz0
  gi_loopw [4] (fun v wr => ∃ (s : St) (k : Nat), Hid (Inn T J W Br Be b off cap ps r gc gh v s wr) ∧ Hid (runS ps ch hp k s = runS ps ch hp (wt ps.length) ⟨[(-1, 0)], [], []⟩) ∧ Hid (phi ps.length s.opn ≤ k) ∧ Hid (phi ps.length s.opn ≤ wt ps.length) ∧ W.heap.size + 2 ≤ wr.heap.size) (fun v wr => muP ps.length v wr)
  case atStart =>
    refine ⟨_, wt ps.length, HS, Lib.hid rfl, Lib.hid ?_, Lib.hid ?_, HZ.out⟩ <;> simp [phi, lv]
  case round =>
    obtain ⟨s, k, HI, hk, hphi, hwt, hsz⟩ := hrel
    obtain ⟨wo, rfl⟩ : ∃ wo : World, wo = wr := ⟨_, rfl⟩
    obtain ⟨opn, came, ys⟩ := s
    cases opn with
    | nil =>
      obtain ⟨g, o, cp, cur, rfl, -⟩ := HI.out.q
      simp only [List.length_nil]
      gi_wp2
      go_end0
      refine ⟨⟨_, rfl⟩, HI.out.but, .inl ?_⟩
      have hfin : (⟨[], came, ys⟩ : St) = runS ps ch hp (wt ps.length) ⟨[(-1, 0)], [], []⟩ := by
        rw [← hk.out]
        cases k <;> rfl
      have := HI.out.j
      rw [hfin] at this
      exact this
    | cons f rest =>
      obtain ⟨g, o, o', cp, rfl, hlm, ho', hbg, hgl, q0, q1, hq'⟩ := HI.out.q.head
      have HC := HI.out.cells
      obtain ⟨⟨c0, c1, c2, c3⟩, ⟨e0, e1⟩, hBrl, hBel⟩ := HC
      have hQ := Lib.hid hq'
      clear hq'
      have hlen := F.len
      have hpos := F.pos
      have hfo : f = (-1, 0) ∨ (findP came f).isSome := HI.out.ok.opn f (by simp)
      have hrl : (0 : Int) < (rest.length : Int) + 1 := by omega
      by_cases hla : f.1 = (ps.length : Int) - 1
      · obtain ⟨fa, fl⟩ := f
        simp only at q0 q1 hla
        subst hla
        have hlb : ((ps.length : Int) - 1 == (ps.length : Int) - 1) = true := by simp
        have HO := Lib.hid ho'
        clear ho'
        gi_wp2_with (first
          | (refine wpListIn_slice_pl rfl (.tmp 21) rfl g o (rest.length + 1) (cp + 1) rfl (by omega) (by omega) o' (by exact HO.out) ?_)
          | fail)
        go_end0
        have hbx := box_below wo (.cells #[.int .i64 ((ps.length : Int) - 1), .int .i64 fl] 151)
        have HI1 := HI.out.below hnBr hnb hnBe hnew hTl hJ hbx
        refine ⟨⟨_, rfl⟩, HI1.but, .inl ?_⟩
        have hfin : (⟨((ps.length : Int) - 1, fl) :: rest, came, ys⟩ : St) = runS ps ch hp (wt ps.length) ⟨[(-1, 0)], [], []⟩ := by
          rw [← hk.out]
          cases k with
          | zero => rfl
          | succ k => simp [runS]
        have := HI1.j
        unfold searchL
        rw [← hfin]
        exact this
      · obtain ⟨i, hfi, hi, hsm⟩ := HI.out.ok.place F hfo hla
        obtain ⟨fa, fl⟩ := f
        simp only at q0 q1 hfi hla
        subst hfi
        have hfo' := Lib.hid hfo
        clear hfo
        have hiI : (i : Int) < ps.length := by omega
        have hlb : ((i : Int) - 1 == (ps.length : Int) - 1) = false := by simpa using hla
        have HO := Lib.hid ho'
        clear ho'
        have hec := EV.ec
        gi_wp2_with (first
          | (refine wpListIn_slice_pl rfl (.tmp 21) rfl g o (rest.length + 1) (cp + 1) rfl (by omega) (by omega) o' (by exact HO.out) ?_)
          | fail)
        refine ⟨trivial, rfl, ?_⟩
        have hbx := box_below wo (.cells #[.int .i64 ((i : Int) - 1), .int .i64 fl] 151)
        have HI1 := HI.out.below hnBr hnb hnBe hnew hTl hJ hbx
        refine (callsIn_wide.2 (EV.c i fl _ hi hsm HI1.box.pts)).mono ?_
        rintro e w1 ⟨B, c, rfl, hci, hBn, hBl, hb1⟩
        have HI2 := HI1.below hnBr hnb hnBe hnew hTl hJ hb1
        have hfb := (hb1.block wo.heap.size (by simp)).trans (heap_alloc_new wo _)
        have hQ1 : Qu w1 W.heap.size (.slice (some ⟨g, o', none⟩) rest.length cp) rest := hQ.out.block fun k hk hl => (hb1.block k (by simp; omega)).trans (hbx.block k hl)
        have hIn := Lib.hid (show Inn T J W Br Be b off cap ps r gc gh (.slice (some ⟨g, o', none⟩) rest.length cp) ⟨rest, came, ys⟩ w1 from
          ⟨HI2.box, HI2.ev, hQ1, HI2.m, HI2.j, HI2.but, ⟨HI2.ok.tree, HI2.ok.rng, fun p hp => HI2.ok.opn p (List.mem_cons_of_mem _ hp)⟩⟩)
        have hFB := Lib.hid hfb
        have hCI := Lib.hid hci
        have hsz1 : wo.heap.size + 1 ≤ w1.heap.size := by simpa using hb1.size
        simp only [World.size_alloc] at hBn
        clear hfb hci HI1 HI2 hQ1 hbx hb1 c0 c1 c2 c3 e0 e1 q0 q1 hec hQ hBrl hBel
        generalize hL : ch ((i : Int) - 1, fl) = L at *
        have HL := Lib.hid hL
        have hL4 : L.length ≤ 4 := hL ▸ EV.len _
        clear hL
        have hN20 : i < 20 := by omega
        have hltr : Br < W.heap.size := lt_of_block hBW.blk
        have hlte : Be < W.heap.size := lt_of_block hEW
        gi_wp2
        gi_loopw [4, 37] (fun v j wr => ∃ (q : Nat) (s' : St), q ≤ L.length ∧ j = .int .i64 q ∧ Hid (Inn T J W Br Be b off cap ps r gc gh v s' wr) ∧ Hid (s' = (L.take q).foldl (step1 ps hp ((i : Int) - 1, fl)) ⟨rest, came, ys⟩) ∧
          Hid (phi ps.length s'.opn ≤ phi ps.length rest + q * wt (ps.length - 1 - i)) ∧ Hid (((i : Int) - 1, fl) = ((-1 : Int), (0 : Int)) ∨ (findP s'.came ((i : Int) - 1, fl)).isSome) ∧
          Hid (wr.heap[wo.heap.size]? = some (.cells #[.int .i64 ((i : Int) - 1), .int .i64 fl] 151 (0, 0))) ∧ Hid (IntsIn wr B 0 L) ∧ w1.heap.size ≤ wr.heap.size ∧ Hid (∀ g', v.ownBlock = some g' → g' ≠ wo.heap.size ∧ g' ≠ B)) (fun v j _ => L.length - (intOf j).toNat)
        case atStart => exact ⟨0, _, Nat.zero_le _, rfl, hIn, Lib.hid rfl, Lib.hid (by simp), hfo', hFB, hCI, Nat.le_refl _, Lib.hid (fun g' hg' => by simp [Value.ownBlock] at hg'; omega)⟩
        case round =>
          obtain ⟨q, s', hq, rfl, HI', hs', hph, hfo2, hFB', HCI, hszi, hown⟩ := hrel
          by_cases hlt : q < L.length
          · have hw9 : IntKind.i64.wrap ((q : Int) + 1) = (q : Int) + 1 := IntWalk.i64_in _ (by omega)
            cases hin : inR ps ((i : Int), ld L q) with
            | false =>
              have HIN := Lib.hid ((inR_nat ps i (ld L q)).symm.trans hin)
              clear hin
              have d0 := (HCI.out q hlt)
              rw [Nat.zero_add] at d0
              obtain ⟨⟨c0, c1, c2, c3⟩, ⟨e0, e1⟩, hBrl, hBel⟩ := HI'.out.cells
              obtain ⟨f0, f1, hfl⟩ := pairB hFB'.out
              have p1 := (HI'.out.box.pts i hi).2.1
              have p2 := (HI'.out.box.pts i hi).2.2
              have hltb' : b < wr.heap.size := Nat.lt_of_lt_of_le hltb HI'.out.but.size
              have hM : ∀ o, Hid (MapIs (wr.alloc o) (W.heap.size + 1) s'.came) := fun o => Lib.hid (HI'.out.m.block (Below.heap_alloc _ _ _ HI'.out.m.lt))
              have hw1 : IntKind.i64.wrap ((i : Int) - 1 + 1) = (i : Int) := by rw [IntWalk.i64_in _ (by omega)]; omega
              have hqI : (q : Int) < L.length := by omega
              generalize hld : ld L q = l' at *
              have HLD := Lib.hid hld
              clear hld
              gi_wp2_with (first
                | (refine wpListIn_look_pl rfl (.tmp 47) (.tmp 48) rfl (W.heap.size + 1) s'.came rfl (by exact (hM _).out) ((i : Int), l') rfl _ rfl ?_; intro q9)
                | fail)
              refine ⟨trivial, rfl, ?_⟩
              refine (callsIn_wide.2 (has_any _ _ _ _)).mono ?_
              rintro e w2 ⟨rfl, hb2⟩
              rw [show hasB (pt ps i).lo (pt ps i).hi l' = false from HIN.out]
              have hb02 := below_to (below2 wr _ _) hb2
              have ht2 := (hb2.block wr.heap.size (by simp; omega)).trans (box2 wr _ _).1
              clear hb2 c0 c1 c2 c3 e0 e1 hBrl hBel f0 f1 hfl p1 p2 hltb' hM d0
              have hbt2 : But T wr w2 := But.of_below hb02
              have HI2 := Lib.hid (HI'.out.below hnBr hnb hnBe hnew hTl hJ hb02)
              have hFB2 := Lib.hid ((hb02.block _ (lt_of_block hFB'.out)).trans hFB'.out)
              have hCI2 := Lib.hid (HCI.out.but hbt2 (hnew B (by omega)))
              have hsz2 := hb02.size
              clear hb02
              have HST := Lib.hid (HI'.out.ok.step (hp := hp) hfo2.out (show ((i : Int) - 1) + 1 < ps.length by omega) l')
              have hstep : step1 ps hp ((i : Int) - 1, fl) s' l' = s' := by
                unfold step1
                simp only [Int.sub_add_cancel, inR_nat, HIN.out]
                simp
              have HSt := Lib.hid hstep
              clear hstep
              gi_wp2
              go_roundw
              case rel =>
                refine ⟨q + 1, s', by omega, by simp, HI2, Lib.hid ?_, Lib.hid ?_, hfo2, hFB2, hCI2, by omega, hown⟩
                · rw [fold_take hlt, HLD.out, ← hs'.out, HSt.out]
                · have := hph.out
                  rw [Nat.add_mul]; omega
              case measure => simp [intOf]; omega
            | true =>
              have HIN := Lib.hid ((inR_nat ps i (ld L q)).symm.trans hin)
              clear hin
              have d0 := (HCI.out q hlt)
              rw [Nat.zero_add] at d0
              obtain ⟨⟨c0, c1, c2, c3⟩, ⟨e0, e1⟩, hBrl, hBel⟩ := HI'.out.cells
              obtain ⟨f0, f1, hfl⟩ := pairB hFB'.out
              have p1 := (HI'.out.box.pts i hi).2.1
              have p2 := (HI'.out.box.pts i hi).2.2
              have hltb' : b < wr.heap.size := Nat.lt_of_lt_of_le hltb HI'.out.but.size
              have hM : ∀ o, Hid (MapIs (wr.alloc o) (W.heap.size + 1) s'.came) := fun o => Lib.hid (HI'.out.m.block (Below.heap_alloc _ _ _ HI'.out.m.lt))
              have hw1 : IntKind.i64.wrap ((i : Int) - 1 + 1) = (i : Int) := by rw [IntWalk.i64_in _ (by omega)]; omega
              have hqI : (q : Int) < L.length := by omega
              generalize hld : ld L q = l' at *
              have HLD := Lib.hid hld
              clear hld
              gi_wp2_with (first
                | (refine wpListIn_look_pl rfl (.tmp 47) (.tmp 48) rfl (W.heap.size + 1) s'.came rfl (by exact (hM _).out) ((i : Int), l') rfl _ rfl ?_; intro q9)
                | fail)
              refine ⟨trivial, rfl, ?_⟩
              refine (callsIn_wide.2 (has_any _ _ _ _)).mono ?_
              rintro e w2 ⟨rfl, hb2⟩
              rw [show hasB (pt ps i).lo (pt ps i).hi l' = true from HIN.out]
              have hb02 := below_to (below2 wr _ _) hb2
              have ht2 := (hb2.block wr.heap.size (by simp; omega)).trans (box2 wr _ _).1
              clear hb2 c0 c1 c2 c3 e0 e1 hBrl hBel f0 f1 hfl p1 p2 hltb' hM d0
              have hbt2 : But T wr w2 := But.of_below hb02
              have HI2 := Lib.hid (HI'.out.below hnBr hnb hnBe hnew hTl hJ hb02)
              have hFB2 := Lib.hid ((hb02.block _ (lt_of_block hFB'.out)).trans hFB'.out)
              have hCI2 := Lib.hid (HCI.out.but hbt2 (hnew B (by omega)))
              have hsz2 := hb02.size
              clear hb02
              have HST := Lib.hid (HI'.out.ok.step (hp := hp) hfo2.out (show ((i : Int) - 1) + 1 < ps.length by omega) l')
              have hsl : Small l' := by
                have h1 := HIN.out
                have h2 := F.lo i hi
                simp only [hasB, decide_eq_true_eq] at h1
                exact ⟨by omega, by omega⟩
              obtain ⟨⟨c0, c1, c2, c3⟩, ⟨e0, e1⟩, hBrl, hBel⟩ := HI2.out.cells
              obtain ⟨f0, f1, hfl⟩ := pairB hFB2.out
              obtain ⟨t0, t1, htl⟩ := pairB ht2
              have heh := EV.eh
              gi_wp2_with fail
              refine ⟨trivial, rfl, ?_⟩
              refine (callsIn_wide.2 (EV.h i fl l' w2 hi hsm hsl HI2.out.box.pts)).mono ?_
              rintro e w3 ⟨rfl, hb3⟩
              have ht3 := (hb3.block wr.heap.size htl).trans ht2
              have hbt3 : But T w2 w3 := But.of_below hb3
              have HI3 := Lib.hid (HI2.out.below hnBr hnb hnBe hnew hTl hJ hb3)
              have hFB3 := Lib.hid ((hb3.block _ (lt_of_block hFB2.out)).trans hFB2.out)
              have hCI3 := Lib.hid (hCI2.out.but hbt3 (hnew B (by omega)))
              have hsz3 := Nat.le_trans hsz2 hb3.size
              clear hb3 hbt3 hbt2 HI2 hFB2 hCI2 hsz2 c0 c1 c2 c3 e0 e1 hBrl hBel f0 f1 hfl t0 t1 htl ht2 heh w2
              obtain ⟨⟨c0, c1, c2, c3⟩, -, hBrl, hBel⟩ := HI3.out.cells
              obtain ⟨f0, f1, hfl⟩ := pairB hFB3.out
              obtain ⟨t0, t1, htl⟩ := pairB ht3
              cases hh : hp ((i : Int) - 1, fl) ((i : Int), l') with
              | true =>
                have HST1 : Hid (step1 ps hp ((i : Int) - 1, fl) s' l' = ⟨s'.opn, s'.came, s'.ys ++ [trB s'.came i ((i : Int) - 1, fl) ((lowT ps).set i l')]⟩) := Lib.hid (by
                  unfold step1
                  simp only [Int.sub_add_cancel, inR_nat, HIN.out, hh, endT, Int.toNat_natCast]
                  simp)
                have HH := Lib.hid hh
                clear hh
                gi_wp2_with fail
                refine ⟨trivial, rfl, ?_⟩
                have hf0 : i = 0 ∨ (findP s'.came ((i : Int) - 1, fl)).isSome := hfo2.out.imp (fun e => by have := congrArg Prod.fst e; simp at this; omega) id
                refine (callsIn_wide.2 (trace_any b off cap (W.heap.size + 1) ps r.d r.k r.o s'.came i fl l' w3 hlen hi HI3.out.box.pts HI3.out.m HI3.out.ok.tree hf0)).mono ?_
                rintro e w4 ⟨rfl, hb4⟩
                have hbt4 : But T w3 w4 := But.of_below hb4
                have HI4 := Lib.hid (HI3.out.below hnBr hnb hnBe hnew hTl hJ hb4)
                have hFB4 := Lib.hid ((hb4.block _ (lt_of_block hFB3.out)).trans hFB3.out)
                have hCI4 := Lib.hid (hCI3.out.but hbt4 (hnew B (by omega)))
                have hsz4 := Nat.le_trans hsz3 hb4.size
                have htr : IsTr ps (trB s'.came i ((i : Int) - 1, fl) ((lowT ps).set i l')) := by
                  have := endT_tr HI3.out.ok hlen hlo (l := l') hfo2.out (show ((i : Int) - 1) + 1 < ps.length by omega) (by rw [Int.sub_add_cancel, inR_nat]; exact HIN.out)
                  simpa [endT, Int.sub_add_cancel] using this
                clear hb4 hbt4 c0 c1 c2 c3 hBrl hBel f0 f1 hfl t0 t1 htl ht3 HI3 hFB3 hCI3 hsz3
                generalize htd : trB s'.came i ((i : Int) - 1, fl) ((lowT ps).set i l') = td at *
                clear htd
                obtain ⟨fn, tmps, assign, body, hy, hR⟩ := hY s'.ys td w4 htr HI4.out.j HI4.out.but
                have HR := Lib.hid hR
                clear hR
                gi_wp2_with fail
                refine ⟨rfl, ?_⟩
                refine HR.out.mono ?_
                clear hy HR
                rintro e W5 (⟨rfl, hJ5, hbt5⟩ | ⟨rfl, hJx5, hbt5⟩)
                · have HI5 := Lib.hid (HI4.out.step hnBr hnb hnBe hnew hbt5 hJ5)
                  have hFB5 := Lib.hid ((hbt5.block _ (lt_of_block hFB4.out) (hnew _ (by omega))).trans hFB4.out)
                  have hCI5 := Lib.hid (hCI4.out.but hbt5 (hnew B (by omega)))
                  have hsz5 := Nat.le_trans hsz4 hbt5.size
                  gi_wp2
                  go_roundw
                  case rel =>
                    refine ⟨q + 1, _, by omega, by simp, HI5, Lib.hid ?_, Lib.hid ?_, hfo2, hFB5, hCI5, by omega, hown⟩
                    · rw [fold_take hlt, HLD.out, ← hs'.out, HST1.out]
                    · have := hph.out
                      rw [Nat.add_mul]
                      show phi ps.length s'.opn ≤ _
                      omega
                  case measure => simp [intOf]; omega
                · gi_wp2
                  rw [Exit.noGoto_normal]
                  go_end0
                  exact ⟨⟨_, rfl⟩, HI4.out.but.trans hbt5, .inr ⟨_, trivial, hJx5⟩⟩
              | false =>
                cases hkn : (findP s'.came ((i : Int), l')).isSome with
                | true =>
                  have HST1 : Hid (step1 ps hp ((i : Int) - 1, fl) s' l' = s') := Lib.hid (by
                    unfold step1
                    simp only [Int.sub_add_cancel, inR_nat, HIN.out, hh, hkn]
                    simp)
                  have HKN := Lib.hid hkn
                  clear hh hkn
                  gi_wp2
                  go_roundw
                  case rel =>
                    refine ⟨q + 1, s', by omega, by simp, HI3, Lib.hid ?_, Lib.hid ?_, hfo2, hFB3, hCI3, by omega, hown⟩
                    · rw [fold_take hlt, HLD.out, ← hs'.out, HST1.out]
                    · have := hph.out
                      rw [Nat.add_mul]; omega
                  case measure => simp [intOf]; omega
                | false =>
                  have HST1 : Hid (step1 ps hp ((i : Int) - 1, fl) s' l' = ⟨s'.opn ++ [((i : Int), l')], s'.came ++ [(((i : Int), l'), ((i : Int) - 1, fl))], s'.ys⟩) := Lib.hid (by
                    unfold step1
                    simp only [Int.sub_add_cancel, inR_nat, HIN.out, hh, hkn]
                    simp)
                  have HKN := Lib.hid hkn
                  clear hh hkn
                  have hlenq : s'.opn.length ≤ 4000000000000 := by
                    have h1 := len_phi ps.length s'.opn
                    have h2 := hph.out
                    have h3 := hwt.out
                    have h4 := wt_lv ps.length i hi fl
                    have h5 := wt_mono hlen
                    rw [wt20] at h5
                    have h6 : phi ps.length (((i : Int) - 1, fl) :: rest) = wt (lv ps.length ((i : Int) - 1, fl)) + phi ps.length rest := by simp [phi]
                    have h7 : q * wt (ps.length - 1 - i) ≤ 4 * wt (ps.length - 1 - i) := Nat.mul_le_mul_right _ (by omega)
                    omega
                  have hne1 : wo.heap.size ≠ W.heap.size + 1 := by omega
                  have hne2 : wr.heap.size ≠ W.heap.size + 1 := by omega
                  have hne3 : B ≠ W.heap.size + 1 := by omega
                  have hcml := HI3.out.m.lt
                  gi_wp2_with (first
                    | (refine wpListIn_put_pl rfl (.tmp 82) (.tmp 83) (.tmp 84) rfl (W.heap.size + 1) s'.came rfl (by exact HI3.out.m) ((i : Int), l') ((i : Int) - 1, fl) rfl rfl (by have := HKN.out; simpa using this) ?_
                       intro o4 w4 hw4 hM4
                       have hFB4 : w4.heap[wo.heap.size]? = some (.cells #[.int .i64 ((i : Int) - 1), .int .i64 fl] 151 (0, 0)) := by rw [hw4]; exact (World.putObj_heap_other hne1).trans hFB3.out
                       have ht4 : w4.heap[wr.heap.size]? = some (.cells #[.int .i64 i, .int .i64 l'] 151 (0, 0)) := by rw [hw4]; exact (World.putObj_heap_other hne2).trans ht3
                       have hCI4 : IntsIn w4 B 0 L := fun j hj => by
                         have e : w4.heap[B]? = w3.heap[B]? := by rw [hw4]; exact World.putObj_heap_other hne3
                         exact (World.cell?_of_block (w := w3) (w' := w4) (a := ⟨B, 0 + j, none⟩) e).trans (hCI3.out j hj)
                       have hq4 : Qu w4 W.heap.size u4 s'.opn := by rw [hw4]; exact HI3.out.q.put HI3.out.m o4
                       have hs4 : w4.heap.size = w3.heap.size := by rw [hw4]; simp [World.putObj]
                       have hb4 : Below W.heap.size w3 w4 := by rw [hw4]; exact ⟨rfl, rfl, rfl, by simp [World.putObj], fun k hk => World.putObj_heap_other (by omega)⟩
                       obtain ⟨t0', t1', htl'⟩ := pairB ht4
                       have HFB4 := Lib.hid hFB4
                       have HT4 := Lib.hid ht4
                       have HCI4 := Lib.hid hCI4
                       have HQ4 := Lib.hid hq4
                       have HB4 := Lib.hid hb4
                       have HM4 := Lib.hid hM4
                       have HS4 := Lib.hid hs4
                       clear hs4
                       clear hw4 hFB4 ht4 hCI4 hq4 hb4 hM4 c0 c1 c2 c3 f0 f1 hfl t0 t1 htl hBrl hBel)
                    | (refine wpListIn_lay rfl 152 151 1 #[(0, .tmp 86)] rfl u152 #[.int .i64 i, .int .i64 l'] (by exact built_pl _ _) ?_)
                    | (refine wpListIn_append_pl rfl (.tmp 85) (.tmp 87) rfl W.heap.size u4 s'.opn ((i : Int), l') w4.heap.size rfl rfl
                         (HQ4.out.block fun k hk hl => Below.heap_alloc _ _ k hl) (by have h1 := HI3.out.but.size; have h2 := HS4.out; simp; omega) hlenq (pairB (heap_alloc_new w4 _)).1 (pairB (heap_alloc_new w4 _)).2.1 ?_
                       intro v6 w6 hq6 hg6 hv6
                       have HQ6 := Lib.hid hq6
                       have HG6 := Lib.hid hg6
                       have HV6 := Lib.hid hv6
                       clear hq6 hg6 hv6)
                    | fail)
                  have hs4 := HS4.out
                  have hg := HG6.out
                  have hsw : W.heap.size ≤ w4.heap.size := by have := HI3.out.but.size; omega
                  have hs6 : w4.heap.size + 1 ≤ w6.heap.size := by have := hg.size; simpa using this
                  have hblk : ∀ k, k < w4.heap.size → some k ≠ u4.ownBlock → w6.heap[k]? = w4.heap[k]? := fun k hk hn => (hg.block k (by simp; omega) hn).trans (Below.heap_alloc _ _ k hk)
                  have hlowq : ∀ k, k < W.heap.size → some k ≠ u4.ownBlock := fun k hk e => by
                    obtain ⟨g', _, _, _, hv', hb', _⟩ := HQ4.out
                    rw [hv'] at e
                    simp [Value.ownBlock] at e
                    omega
                  have hcmq : some (W.heap.size + 1) ≠ u4.ownBlock := fun e => by
                    obtain ⟨g', _, _, cur', hv', hb', hc', _⟩ := HQ4.out
                    obtain ⟨es', cl', hm', _⟩ := HM4.out
                    rw [hv'] at e
                    simp [Value.ownBlock] at e
                    rw [← e, hm'] at hc'
                    cases hc'
                  have hb6 : Below W.heap.size w3 w6 := HB4.out.trans ⟨hg.os.trans rfl, hg.tape.trans rfl, hg.output.trans rfl, by omega, fun k hk => hblk k (by omega) (hlowq k hk)⟩
                  have hM6 : MapIs w6 (W.heap.size + 1) (s'.came ++ [(((i : Int), l'), ((i : Int) - 1, fl))]) := HM4.out.block (hblk _ (by omega) hcmq)
                  have hFB6 := Lib.hid ((hblk wo.heap.size (lt_of_block HFB4.out) (fun e => ((hown.out _ e.symm).1 rfl))).trans HFB4.out)
                  have hCI6 : Hid (IntsIn w6 B 0 L) := Lib.hid fun j hj =>
                    (World.cell?_of_block (w := w4) (w' := w6) (a := ⟨B, 0 + j, none⟩) (hblk B (by omega) (fun e => ((hown.out _ e.symm).2 rfl)))).trans (HCI4.out j hj)
                  have hST := HST.out
                  rw [HST1.out] at hST
                  have HI6 := Lib.hid (HI3.out.low (s' := ⟨s'.opn ++ [((i : Int), l')], s'.came ++ [(((i : Int), l'), ((i : Int) - 1, fl))], s'.ys⟩) hTl hJ hltb hltr hlte hb6 HQ6.out hM6 hST.1 rfl)
                  have hfo6 : Hid (((i : Int) - 1, fl) = ((-1 : Int), (0 : Int)) ∨ (findP (s'.came ++ [(((i : Int), l'), ((i : Int) - 1, fl))]) ((i : Int) - 1, fl)).isSome) := Lib.hid (hfo2.out.imp id (hST.2.1 _))
                  have hown6 : Hid (∀ g', v6.ownBlock = some g' → g' ≠ wo.heap.size ∧ g' ≠ B) := Lib.hid fun g' hg' => by
                    rcases HV6.out with h | h
                    · exact hown.out g' (h ▸ hg')
                    · rw [h] at hg'
                      simp at hg'
                      omega
                  clear hg hblk hlowq hcmq hb6 hM6
                  have hST2 := Lib.hid hST.2.2
                  clear hST
                  gi_wp2
                  go_roundw
                  case rel =>
                    refine ⟨q + 1, _, by omega, by simp, HI6, Lib.hid ?_, Lib.hid ?_, hfo6, hFB6, hCI6, by omega, hown6⟩
                    · rw [fold_take hlt, HLD.out, ← hs'.out, HST1.out]
                    · have h1 := hph.out
                      have h2 := hST2.out
                      rw [Int.sub_add_cancel, wt_lv' _ _ hi] at h2
                      rw [Nat.add_mul]
                      simp only at h2 ⊢
                      omega
                  case measure => simp [intOf]; omega
          · obtain rfl : q = L.length := by omega
            obtain ⟨k', rfl⟩ : ∃ k', k = k' + 1 := ⟨k - 1, by
              have h1 := hphi.out
              have h2 := len_phi ps.length (((i : Int) - 1, fl) :: rest)
              simp only [List.length_cons] at h1 h2
              omega⟩
            have hfold : s' = L.foldl (step1 ps hp ((i : Int) - 1, fl)) ⟨rest, came, ys⟩ := by rw [hs'.out, List.take_length]
            have hrun : runS ps ch hp k' s' = runS ps ch hp (wt ps.length) ⟨[(-1, 0)], [], []⟩ := by
              rw [← hk.out, hfold]
              simp only [runS]
              rw [if_neg hla, HL.out]
            have h6 : phi ps.length (((i : Int) - 1, fl) :: rest) = wt (lv ps.length ((i : Int) - 1, fl)) + phi ps.length rest := by simp [phi]
            have h4 := wt_lv ps.length i hi fl
            have h7 : L.length * wt (ps.length - 1 - i) ≤ 4 * wt (ps.length - 1 - i) := Nat.mul_le_mul_right _ hL4
            have hlt' : phi ps.length s'.opn < phi ps.length (((i : Int) - 1, fl) :: rest) := by
              have := hph.out
              omega
            have HLT := Lib.hid hlt'
            have HRUN := Lib.hid hrun
            clear hlt' hrun hfold h6 h4 h7
            gi_wp2
            go_roundw
            case rel =>
              refine ⟨s', k', HI', HRUN, Lib.hid ?_, Lib.hid ?_, by omega⟩
              · have h1 := hphi.out
                have h2 := HLT.out
                omega
              · have h1 := hwt.out
                have h2 := HLT.out
                omega
            case measure =>
              have e1 : muP ps.length u4 wr = phi ps.length s'.opn := by rw [muP, HI'.out.q.dec]
              have e2 := HI.out.q.dec
              rw [e1, muP, e2]
              exact HLT.out
end Go.Proofs.Ytfjlnejeffkdoaa
