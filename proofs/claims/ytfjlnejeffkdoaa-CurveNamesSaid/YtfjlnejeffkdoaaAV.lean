/- The search is complete: plain lists. No condition. The brought truths of strength and of work reach the ends of all truths: plain numbers. No condition but those of a valid curve. The search for a drop reaches the ends of all yields, and all yield points: plain numbers. No condition but those of a valid curve. The search for a meeting reaches the ends of all proof loads, and all meeting points: plain numbers. No condition but those of a valid curve. The bounds of the brought truths are the span, for each kind: plain numbers. No condition but those of a valid curve. What follows of the spans: over all truths they are the same, better readings make none wider, and each point that may be is brought: plain numbers. No condition but those of a valid curve. -/
import Derived.Test.YtfjlnejeffkdoaaY
import Derived.Test.YtfjlnejeffkdoaaAO
/- The search is complete: plain lists. No condition. -/
namespace Go.Proofs.Ytfjlnejeffkdoaa
open Go.RowKit

theorem trB_grow {n : Nat} {E E' : List (Plc × Plc)} (hT : Tree n E) (hE : ∀ p q, findP E p = some q → findP E' p = some q) : ∀ (k : Nat) (f : Plc) (t : List Int), (k = 0 ∨ f.1 = (k : Int) - 1 ∧ (findP E f).isSome) → trB E' k f t = trB E k f t
  | 0, _, _, _ => rfl
  | k + 1, f, t, h => by
    obtain ⟨h1, h2⟩ := h.resolve_left (by omega)
    obtain ⟨q, hq⟩ := Option.isSome_iff_exists.1 h2
    unfold trB
    rw [hq, hE f q hq, Option.getD_some]
    obtain ⟨a, b, c, d⟩ := hT f q hq
    refine trB_grow hT hE k q _ ?_
    rcases Nat.eq_zero_or_pos k with h0 | h0
    · exact .inl h0
    · exact .inr ⟨by omega, d (by omega)⟩

def Known (s : St) (p : Plc) : Prop := p = (-1, 0) ∨ (findP s.came p).isSome = true

theorem endT_grow {ps : List Pt} {s s' : St} (h : OkS ps s) (hE : ∀ p q, findP s.came p = some q → findP s'.came p = some q) {f : Plc} (hf : Known s f) (l : Int) : endT ps s'.came f l = endT ps s.came f l := by
  unfold endT
  refine trB_grow h.tree hE _ f _ ?_
  rcases hf with rfl | hf
  · exact .inl (by decide)
  · have := (h.at hf).1
    exact .inr ⟨by omega, hf⟩

/-- What is done with a place: each of its choices is brought, or known. -/
def Did (ps : List Pt) (hp : Plc → Plc → Bool) (s : St) (f : Plc) (l : Int) : Prop :=
  inR ps (f.1 + 1, l) = true → (hp f (f.1 + 1, l) = true → endT ps s.came f l ∈ s.ys) ∧ (hp f (f.1 + 1, l) = false → (findP s.came (f.1 + 1, l)).isSome = true)

structure Gr (s s' : St) : Prop where
  came : ∀ p q, findP s.came p = some q → findP s'.came p = some q
  ys : ∀ t ∈ s.ys, t ∈ s'.ys
theorem Gr.refl (s : St) : Gr s s := ⟨fun _ _ h => h, fun _ h => h⟩
theorem Gr.trans {a b c : St} (h : Gr a b) (g : Gr b c) : Gr a c := ⟨fun p q hp => g.came p q (h.came p q hp), fun t ht => g.ys t (h.ys t ht)⟩
theorem Gr.isSome {s s' : St} (h : Gr s s') {p : Plc} (hp : (findP s.came p).isSome = true) : (findP s'.came p).isSome = true := by
  obtain ⟨q, hq⟩ := Option.isSome_iff_exists.1 hp
  rw [h.came p q hq]
  rfl
theorem Gr.known {s s' : St} (h : Gr s s') {p : Plc} (hp : Known s p) : Known s' p := hp.imp id h.isSome
theorem Did.grow {ps : List Pt} {hp : Plc → Plc → Bool} {s s' : St} (hok : OkS ps s) (h : Gr s s') {f : Plc} (hf : Known s f) {l : Int} (hd : Did ps hp s f l) : Did ps hp s' f l := fun hin => by
  obtain ⟨h1, h2⟩ := hd hin
  refine ⟨fun hh => ?_, fun hh => h.isSome (h2 hh)⟩
  rw [endT_grow hok h.came hf]
  exact h.ys _ (h1 hh)

/-- What one step does. -/
structure StepOne (Cl : Plc → Plc → Prop) (f : Plc) (s s' : St) (new : List Plc) : Prop where
  gr : Gr s s'
  opn : s'.opn = s.opn ++ new
  lev : ∀ p ∈ new, p.1 = f.1 + 1
  all : ∀ p, (findP s'.came p).isSome = true → (findP s.came p).isSome = true ∨ p ∈ new
  calm : (∀ p q, findP s.came p = some q → Cl q p) → ∀ p q, findP s'.came p = some q → Cl q p

theorem step1_one {ps : List Pt} {hp : Plc → Plc → Bool} (Cl : Plc → Plc → Prop) {f : Plc} (s : St) (l : Int) (hcl : hp f (f.1 + 1, l) = false → Cl f (f.1 + 1, l)) :
    ∃ new, StepOne Cl f s (step1 ps hp f s l) new ∧ Did ps hp (step1 ps hp f s l) f l := by
  unfold step1
  split
  · rename_i hin
    split
    · rename_i hh
      refine ⟨[], ⟨⟨fun _ _ h => h, fun t ht => by simp [ht]⟩, by simp, by simp, fun p hp => .inl hp, fun h => h⟩, fun _ => ⟨fun _ => by simp, fun hh' => by rw [hh] at hh'; cases hh'⟩⟩
    · rename_i hh
      have hh' : hp f (f.1 + 1, l) = false := by simpa using hh
      split
      · rename_i hs
        exact ⟨[], ⟨Gr.refl s, by simp, by simp, fun p hp => .inl hp, fun h => h⟩, fun _ => ⟨fun e => absurd e hh, fun _ => hs⟩⟩
      · rename_i hno
        have hno' : findP s.came (f.1 + 1, l) = none := by simpa using hno
        refine ⟨[(f.1 + 1, l)], ⟨⟨fun p q hq => ?_, fun _ h => h⟩, rfl, by simp, fun p hp => ?_, fun hc p q hq => ?_⟩, fun _ => ⟨fun e => absurd e hh, fun _ => ?_⟩⟩
        · rw [findP_app, hq]
          rfl
        · simp only [findP_app] at hp
          cases hf : findP s.came p with
          | some q => exact .inl rfl
          | none =>
            rw [hf, Option.none_or] at hp
            split at hp
            · rename_i e
              exact .inr (by simpa using e)
            · simp at hp
        · simp only [findP_app] at hq
          cases hf : findP s.came p with
          | some q' =>
            rw [hf, Option.some_or] at hq
            cases hq
            exact hc p _ hf
          | none =>
            rw [hf, Option.none_or] at hq
            split at hq
            · rename_i e
              obtain rfl : p = (f.1 + 1, l) := by simpa using e
              cases hq
              exact hcl hh'
            · cases hq
        · show (findP (s.came ++ [((f.1 + 1, l), f)]) (f.1 + 1, l)).isSome = true
          rw [findP_app, hno']
          simp
  · rename_i hin
    exact ⟨[], ⟨Gr.refl s, by simp, by simp, fun p hp => .inl hp, fun h => h⟩, fun h => absurd h hin⟩

theorem StepOne.trans {Cl : Plc → Plc → Prop} {f : Plc} {a b c : St} {n1 n2 : List Plc} (h : StepOne Cl f a b n1) (g : StepOne Cl f b c n2) : StepOne Cl f a c (n1 ++ n2) :=
  ⟨h.gr.trans g.gr, by rw [g.opn, h.opn, List.append_assoc], fun p hp => (List.mem_append.1 hp).elim (h.lev p) (g.lev p),
    fun p hp => (g.all p hp).elim (fun hp => (h.all p hp).imp id fun x => List.mem_append.2 (.inl x)) fun x => .inr (List.mem_append.2 (.inr x)), fun hc => g.calm (h.calm hc)⟩

theorem fold_one {ps : List Pt} {hp : Plc → Plc → Bool} (Cl : Plc → Plc → Prop) {f : Plc} (hn : f.1 + 1 < ps.length) : ∀ (ls : List Int) (s : St), OkS ps s → Known s f → (∀ l ∈ ls, hp f (f.1 + 1, l) = false → Cl f (f.1 + 1, l)) →
    ∃ new, StepOne Cl f s (ls.foldl (step1 ps hp f) s) new ∧ OkS ps (ls.foldl (step1 ps hp f) s) ∧ (∀ l ∈ ls, Did ps hp (ls.foldl (step1 ps hp f) s) f l) ∧
      phi ps.length (ls.foldl (step1 ps hp f) s).opn ≤ phi ps.length s.opn + ls.length * wt (lv ps.length (f.1 + 1, 0))
  | [], s, hok, _, _ => ⟨[], ⟨Gr.refl s, by simp, by simp, fun p hp => .inl hp, fun h => h⟩, hok, by simp, by simp⟩
  | l :: ls, s, hok, hf, hcl => by
    obtain ⟨n1, h1, hd1⟩ := step1_one (ps := ps) (hp := hp) Cl s l (hcl l (by simp))
    obtain ⟨ok1, -, ph1⟩ := hok.step (hp := hp) hf hn l
    obtain ⟨n2, h2, ok2, hd2, ph2⟩ := fold_one Cl hn ls (step1 ps hp f s l) ok1 (h1.gr.known hf) fun x hx => hcl x (by simp [hx])
    refine ⟨n1 ++ n2, h1.trans h2, ok2, fun x hx => ?_, ?_⟩
    · rcases List.mem_cons.1 hx with rfl | hx
      · exact hd1.grow ok1 h2.gr (h1.gr.known hf)
      · exact hd2 x hx
    · have e : wt (lv ps.length (f.1 + 1, l)) = wt (lv ps.length (f.1 + 1, 0)) := rfl
      simp only [List.foldl_cons, List.length_cons, Nat.add_mul, Nat.one_mul]
      omega

/-- What holds between the rounds: D are the places that are done. -/
structure Full (ps : List Pt) (ch : Plc → List Int) (hp : Plc → Plc → Bool) (Cl : Plc → Plc → Prop) (s : St) (D : Plc → Prop) : Prop where
  ok : OkS ps s
  srt : s.opn.Pairwise (fun a b => a.1 ≤ b.1)
  near : ∀ a ∈ s.opn, ∀ b ∈ s.opn, b.1 ≤ a.1 + 1
  low : ∀ a ∈ s.opn, -1 ≤ a.1 ∧ a.1 < ps.length
  all : ∀ p, Known s p → p ∈ s.opn ∨ D p
  calm : ∀ p q, findP s.came p = some q → Cl q p
  did : ∀ f, D f → Known s f ∧ ∀ l ∈ ch f, Did ps hp s f l

theorem run_full {ps : List Pt} {ch : Plc → List Int} {hp : Plc → Plc → Bool} {Cl : Plc → Plc → Prop} (h4 : ∀ f, (ch f).length ≤ 4) (hcl : ∀ f l, l ∈ ch f → hp f (f.1 + 1, l) = false → Cl f (f.1 + 1, l)) : ∀ (k : Nat) (s : St) (D : Plc → Prop), Full ps ch hp Cl s D → phi ps.length s.opn ≤ k →
    ∃ D', Full ps ch hp Cl (runS ps ch hp k s) D' ∧ ∀ p ∈ (runS ps ch hp k s).opn, (ps.length : Int) - 1 ≤ p.1
  | 0, s, D, h, hk => by
    have := len_phi ps.length s.opn
    have h0 : s.opn = [] := List.eq_nil_of_length_eq_zero (by omega)
    exact ⟨D, h, fun p hp => by simp only [runS] at hp; rw [h0] at hp; cases hp⟩
  | k + 1, s, D, h, hk => by
    obtain ⟨opn, came, ys⟩ := s
    cases opn with
    | nil => exact ⟨D, h, fun p hp => by simp [runS] at hp⟩
    | cons f rest =>
      simp only [runS]
      split
      · rename_i e
        refine ⟨D, h, fun p hp => ?_⟩
        rcases List.mem_cons.1 hp with rfl | hp
        · omega
        · have := (List.pairwise_cons.1 h.srt).1 p hp
          omega
      · rename_i hne
        have hlow := h.low f (by simp)
        have hn : f.1 + 1 < ps.length := by omega
        have hok0 : OkS ps ⟨rest, came, ys⟩ := ⟨h.ok.tree, h.ok.rng, fun p hp => h.ok.opn p (by simp [hp])⟩
        have hf0 : Known ⟨rest, came, ys⟩ f := h.ok.opn f (by simp)
        obtain ⟨new, h1, ok1, hd, ph⟩ := fold_one (hp := hp) Cl hn (ch f) ⟨rest, came, ys⟩ hok0 hf0 fun l hl => hcl f l hl
        refine run_full h4 hcl k _ (fun p => D p ∨ p = f) ⟨ok1, ?_, ?_, ?_, ?_, h1.calm h.calm, ?_⟩ ?_
        · rw [h1.opn]
          refine List.pairwise_append.2 ⟨(List.pairwise_cons.1 h.srt).2, ?_, fun a ha b hb => ?_⟩
          · refine List.pairwise_of_forall_mem_list fun a ha b hb => ?_
            rw [h1.lev a ha, h1.lev b hb]
            exact Int.le_refl _
          · rw [h1.lev b hb]
            exact h.near f (by simp) a (by simp [show a ∈ rest from ha])
        · intro a ha b hb
          rw [h1.opn] at ha hb
          have hfa : f.1 ≤ a.1 := by
            rcases List.mem_append.1 ha with ha | ha
            · exact (List.pairwise_cons.1 h.srt).1 a ha
            · rw [h1.lev a ha]; omega
          rcases List.mem_append.1 hb with hb | hb
          · have := h.near f (by simp) b (by simp [show b ∈ rest from hb])
            omega
          · rw [h1.lev b hb]; omega
        · intro a ha
          rw [h1.opn] at ha
          rcases List.mem_append.1 ha with ha | ha
          · exact h.low a (by simp [show a ∈ rest from ha])
          · rw [h1.lev a ha]; omega
        · intro p hp
          have hold : Known ⟨f :: rest, came, ys⟩ p → p ∈ (List.foldl (step1 ps _ f) ⟨rest, came, ys⟩ (ch f)).opn ∨ D p ∨ p = f := fun hk => by
            rcases h.all p hk with hm | hm
            · rcases List.mem_cons.1 hm with rfl | hm
              · exact .inr (.inr rfl)
              · exact .inl (by rw [h1.opn]; exact List.mem_append.2 (.inl hm))
            · exact .inr (.inl hm)
          rcases hp with rfl | hp
          · exact hold (.inl rfl)
          · rcases h1.all p hp with hp | hp
            · exact hold (.inr hp)
            · exact .inl (by rw [h1.opn]; exact List.mem_append.2 (.inr hp))
        · rintro g (hg | rfl)
          · obtain ⟨a, b⟩ := h.did g hg
            have ha : Known ⟨rest, came, ys⟩ g := a
            exact ⟨h1.gr.known ha, fun l hl => Did.grow hok0 h1.gr ha (b l hl)⟩
          · exact ⟨h1.gr.known hf0, hd⟩
        · have e1 : phi ps.length (f :: rest) = wt (lv ps.length f) + phi ps.length rest := by simp [phi]
          have e2 : lv ps.length f = lv ps.length (f.1 + 1, 0) + 1 := by simp only [lv]; omega
          rw [e2, wt] at e1
          have e3 := Nat.mul_le_mul_right (wt (lv ps.length (f.1 + 1, 0))) (h4 f)
          have hk' : phi ps.length (f :: rest) ≤ k + 1 := hk
          have ph' : phi ps.length (List.foldl (step1 ps hp f) ⟨rest, came, ys⟩ (ch f)).opn ≤ phi ps.length rest + (ch f).length * wt (lv ps.length (f.1 + 1, 0)) := ph
          omega

/-- The search is complete. -/
theorem search_full {ps : List Pt} {ch : Plc → List Int} {hp : Plc → Plc → Bool} {Cl : Plc → Plc → Prop} (hpos : 0 < ps.length) (h4 : ∀ f, (ch f).length ≤ 4) (hcl : ∀ f l, l ∈ ch f → hp f (f.1 + 1, l) = false → Cl f (f.1 + 1, l)) :
    ∃ s : St, s.ys = searchL ps ch hp ∧ OkS ps s ∧ (∀ p q, findP s.came p = some q → Cl q p) ∧ ∀ f, Known s f → f.1 + 1 < ps.length → ∀ l ∈ ch f, Did ps hp s f l := by
  have h0 : Full ps ch hp Cl ⟨[(-1, 0)], [], []⟩ (fun _ => False) := by
    refine ⟨⟨fun p q h => (by cases h), fun p q h => (by cases h), fun p hp => .inl (by simpa using hp)⟩, by simp, ?_, ?_, fun p hp => .inl ?_, fun p q h => (by cases h), fun f h => h.elim⟩
    · intro a ha b hb
      obtain rfl : a = (-1, 0) := by simpa using ha
      obtain rfl : b = (-1, 0) := by simpa using hb
      decide
    · intro a ha
      obtain rfl : a = (-1, 0) := by simpa using ha
      constructor
      · decide
      · show (-1 : Int) < ps.length
        omega
    · rcases hp with rfl | hp
      · simp
      · simp [findP] at hp
  obtain ⟨D, hF, hend⟩ := run_full h4 hcl (wt ps.length) ⟨[(-1, 0)], [], []⟩ _ h0 (by simp [phi, lv])
  refine ⟨_, rfl, hF.ok, hF.calm, fun f hf hn => ?_⟩
  rcases hF.all f hf with hm | hm
  · have := hend f hm
    omega
  · exact (hF.did f hm).2
end Go.Proofs.Ytfjlnejeffkdoaa

/- The brought truths of strength and of work reach the ends of all truths: plain numbers. No condition but those of a valid curve. -/
namespace Go.Proofs.Ytfjlnejeffkdoaa
open Go.RowKit

theorem bnd_in {xs : List (Int × Int)} {lo hi : Int} (h : bnd xs = some (lo, hi)) : ∀ x ∈ xs, lo ≤ x.2 ∧ x.2 ≤ hi := ((bnd_mem _ xs rfl).2 lo hi h).2.2
theorem nums_in {ps : List Pt} {r : Rl} {fnd : Rs → Int × Int} {ts : List (List Int)} {t : List Int} (ht : t ∈ ts) (h : (fnd (readR ps r t)).1 ≠ -1) : fnd (readR ps r t) ∈ numsL ps r fnd ts := by
  simp only [numsL, List.mem_filter, List.mem_map, bne_iff_ne]
  exact ⟨⟨t, ht, rfl⟩, h⟩

theorem tr_pos {ps : List Pt} {r : Rl} {t : List Int} (F : Sane ps r) (h : IsTr ps t) (i : Nat) : 0 ≤ ld t i := by
  by_cases hi : i < ps.length
  · have := h.2.1 i hi
    have := F.lo i hi
    omega
  · rw [h.2.2 i (by omega)]
    omega
theorem tr_grt {ps : List Pt} {r : Rl} {t : List Int} (F : Sane ps r) (h : IsTr ps t) : (∀ i, i < ps.length → ld t i ≤ grt (t.take ps.length)) ∧ ∃ i, i < ps.length ∧ ld t i = grt (t.take ps.length) := by
  have hl := F.len
  obtain ⟨h1, h2⟩ := grt_mem t ps.length (fun i _ => tr_pos F h i) (by rw [h.1]; exact hl)
  exact ⟨h1, h2 F.pos⟩
theorem tr_pk {ps : List Pt} {r : Rl} {t : List Int} (F : Sane ps r) (h : IsTr ps t) : (readR ps r t).pk ≠ -1 := by
  obtain ⟨i, hi, he⟩ := (tr_grt F h).2
  rcases fst_cases (fun i => grt (t.take ps.length) == ld t i) ps.length with ⟨_, hno⟩ | ⟨k, _, e, _⟩
  · have := hno i hi
    simp [he] at this
  · intro hc
    have : fst (fun i => grt (t.take ps.length) == ld t i) ps.length = -1 := hc
    omega

theorem low_le {ps : List Pt} {r : Rl} {t : List Int} (F : Sane ps r) (h : IsTr ps t) (i : Nat) (hi : i < ps.length) : ld (lowT ps) i ≤ ld t i := by
  have hl := F.len
  unfold lowT
  rw [upT_ld _ _ _ (by omega), if_pos hi]
  exact (h.2.1 i hi).1
theorem le_high {ps : List Pt} {r : Rl} {t : List Int} (F : Sane ps r) (h : IsTr ps t) (i : Nat) (hi : i < ps.length) : ld t i ≤ ld (highT ps) i := by
  have hl := F.len
  unfold highT
  rw [upT_ld _ _ _ (by omega), if_pos hi]
  exact (h.2.1 i hi).2

/-- The strength of every truth lies in the span. -/
theorem span_strength {ps : List Pt} {r : Rl} (F : Sane ps r) {lo hi : Int} (hb : bnd (numsL ps r (fun x => (x.pk, x.st)) (raised ps ps.length)) = some (lo, hi)) {t : List Int} (h : IsTr ps t) : lo ≤ (readR ps r t).st ∧ (readR ps r t).st ≤ hi := by
  have hin := bnd_in hb
  have hlow := lowT_tr F
  constructor
  · have h1 := (hin _ (nums_in (t := lowT ps) (by simp [raised]) (tr_pk F hlow))).1
    obtain ⟨i, hi', he⟩ := (tr_grt F hlow).2
    have h2 := (tr_grt F h).1 i hi'
    have h3 := low_le F h i hi'
    have h1' : lo ≤ grt ((lowT ps).take ps.length) := h1
    show lo ≤ grt (t.take ps.length)
    omega
  · obtain ⟨i, hi', he⟩ := (tr_grt F h).2
    have hra := raiseT_tr F i hi'
    have h1 : grt ((raiseT ps i).take ps.length) ≤ hi := (hin _ (nums_in (t := raiseT ps i) (by simp only [raised, List.mem_cons, List.mem_map, List.mem_range]; exact .inr ⟨i, hi', rfl⟩) (tr_pk F hra))).2
    have h2 := (tr_grt F hra).1 i hi'
    have h3 : ld (raiseT ps i) i = (pt ps i).hi := by
      have hl := F.len
      unfold raiseT ld
      rw [List.getElem?_set, if_pos rfl, if_pos (by rw [hlow.1]; omega)]
      rfl
    have h4 := (h.2.1 i hi').2
    show grt (t.take ps.length) ≤ hi
    omega

theorem wk_mono {ps : List Pt} {r : Rl} {s t : List Int} (hst : ∀ i, i + 1 < ps.length → (pt ps i).s < (pt ps (i + 1)).s) (h : ∀ i, i < ps.length → ld s i ≤ ld t i) : ∀ k : Nat, k < ps.length → wkTo ps s k ≤ wkTo ps t k
  | 0, _ => Int.le_refl _
  | k + 1, hk => by
    have ih := wk_mono (r := r) hst h k (by omega)
    have h1 := h k (by omega)
    have h2 := h (k + 1) hk
    have h3 := hst k hk
    show wkTo ps s k + (ld s k + ld s (k + 1)) * ((pt ps (k + 1)).s - (pt ps k).s) ≤ wkTo ps t k + (ld t k + ld t (k + 1)) * ((pt ps (k + 1)).s - (pt ps k).s)
    have := Int.mul_le_mul_of_nonneg_right (show ld s k + ld s (k + 1) ≤ ld t k + ld t (k + 1) by omega) (show 0 ≤ (pt ps (k + 1)).s - (pt ps k).s by omega)
    omega

/-- The work of every truth lies in the span. -/
theorem span_work {ps : List Pt} {r : Rl} (F : Sane ps r) (hg : goodsB ps 0 = true) {lo hi : Int} (hb : bnd (numsL ps r (fun x => (0, x.wk)) [lowT ps, highT ps]) = some (lo, hi)) {t : List Int} (h : IsTr ps t) : lo ≤ (readR ps r t).wk ∧ (readR ps r t).wk ≤ hi := by
  have hin := bnd_in hb
  have hpos := F.pos
  have hst : ∀ i, i + 1 < ps.length → (pt ps i).s < (pt ps (i + 1)).s := fun i hi => by
    have := (goodB_spec hg hi).1
    simpa using this
  have h1 : lo ≤ wkTo ps (lowT ps) (ps.length - 1) := (hin _ (nums_in (t := lowT ps) (by simp) (by simp))).1
  have h2 : wkTo ps (highT ps) (ps.length - 1) ≤ hi := (hin _ (nums_in (t := highT ps) (by simp) (by simp))).2
  have h3 := wk_mono (r := r) hst (fun i hi' => low_le F h i hi') (ps.length - 1) (by omega)
  have h4 := wk_mono (r := r) hst (fun i hi' => le_high F h i hi') (ps.length - 1) (by omega)
  exact ⟨Int.le_trans h1 h3, Int.le_trans h4 h2⟩

/-- A point that is the peak in some truth is the peak in the one in which its load alone is the greatest. -/
theorem peak_raised {ps : List Pt} {r : Rl} (F : Sane ps r) {t : List Int} (h : IsTr ps t) : ∃ u ∈ raised ps ps.length, (readR ps r u).pk = (readR ps r t).pk := by
  have hl := F.len
  have hlow := lowT_tr F
  rcases fst_cases (fun i => grt (t.take ps.length) == ld t i) ps.length with ⟨e, _⟩ | ⟨k, hk, e, hB, hno⟩
  · exact absurd e (tr_pk F h)
  · have hra := raiseT_tr F k hk
    refine ⟨raiseT ps k, by simp only [raised, List.mem_cons, List.mem_map, List.mem_range]; exact .inr ⟨k, hk, rfl⟩, ?_⟩
    have hld : ∀ j, ld (raiseT ps k) j = if j = k then (pt ps k).hi else ld (lowT ps) j := fun j => by
      unfold raiseT ld
      rw [List.getElem?_set]
      by_cases hj : k = j
      · subst hj
        rw [if_pos rfl, if_pos (by rw [hlow.1]; omega), if_pos rfl]
        rfl
      · rw [if_neg hj, if_neg (fun e => hj e.symm)]
    have hmax : ∀ j, j < ps.length → ld t j ≤ ld t k := fun j hj => by
      have h1 := (tr_grt F h).1 j hj
      have h2 : grt (t.take ps.length) = ld t k := eq_of_beq hB
      omega
    have hbef : ∀ j, j < k → ld t j < ld t k := fun j hj => by
      have h1 := hno j hj
      have h2 : grt (t.take ps.length) = ld t k := eq_of_beq hB
      have h3 := hmax j (by omega)
      have h4 : ld t j ≠ ld t k := fun e => by
        have : (grt (t.take ps.length) == ld t j) = false := h1
        rw [h2, e] at this
        simp at this
      omega
    have hk2 := (h.2.1 k hk).2
    have hgr : grt ((raiseT ps k).take ps.length) = (pt ps k).hi := by
      obtain ⟨g1, i, hi, he⟩ := tr_grt F hra
      have g2 := g1 k hk
      rw [hld, if_pos rfl] at g2
      rw [hld] at he
      split at he
      · omega
      · have := low_le F h i hi
        have := hmax i hi
        omega
    show fst (fun i => grt ((raiseT ps k).take ps.length) == ld (raiseT ps k) i) ps.length = fst (fun i => grt (t.take ps.length) == ld t i) ps.length
    rw [e]
    refine fst_hit hk ?_ fun j hj => ?_
    · show (grt ((raiseT ps k).take ps.length) == ld (raiseT ps k) k) = true
      rw [hgr, hld, if_pos rfl]
      simp
    · show (grt ((raiseT ps k).take ps.length) == ld (raiseT ps k) j) = false
      rw [hgr, hld, if_neg (by omega), beq_eq_false_iff_ne]
      have := low_le F h j (by omega)
      have := hbef j hj
      omega
end Go.Proofs.Ytfjlnejeffkdoaa

/- The search for a drop reaches the ends of all yields, and all yield points: plain numbers. No condition but those of a valid curve. -/
namespace Go.Proofs.Ytfjlnejeffkdoaa
open Go.RowKit

theorem ld_set (t : List Int) (k j : Nat) (v : Int) (hk : k < t.length) : ld (t.set k v) j = if j = k then v else ld t j := by
  unfold ld
  rw [List.getElem?_set]
  by_cases hj : k = j
  · subst hj
    rw [if_pos rfl, if_pos hk, if_pos rfl]
    rfl
  · rw [if_neg hj, if_neg (fun e => hj e.symm)]

/-- The loads of a truth that ends at a place. -/
theorem trB_ld {n : Nat} {E : List (Plc × Plc)} (hT : Tree n E) (hn : n ≤ 20) : ∀ (k : Nat) (f : Plc) (t : List Int), t.length = 20 → k ≤ n → (k = 0 ∨ f.1 = (k : Int) - 1 ∧ (findP E f).isSome) →
    (∀ j, k ≤ j → ld (trB E k f t) j = ld t j) ∧ (0 < k → ld (trB E k f t) (k - 1) = f.2) ∧
    ∀ j, j < k → ∃ q p, findP E p = some q ∧ p.1 = (j : Int) ∧ ld (trB E k f t) j = p.2 ∧ (0 < j → q.1 = (j : Int) - 1 ∧ ld (trB E k f t) (j - 1) = q.2)
  | 0, _, _, _, _, _ => ⟨fun _ _ => rfl, fun h => absurd h (by omega), fun j h => absurd h (by omega)⟩
  | k + 1, f, t, ht, hk, hf => by
    obtain ⟨h1, h2⟩ := hf.resolve_left (by omega)
    obtain ⟨q, hq⟩ := Option.isSome_iff_exists.1 h2
    obtain ⟨a, b, c, d⟩ := hT f q hq
    have hkt : k < t.length := by omega
    unfold trB
    rw [hq, Option.getD_some]
    obtain ⟨g1, g2, g3⟩ := trB_ld hT hn k q (t.set k f.2) (by simpa using ht) (by omega) (by
      rcases Nat.eq_zero_or_pos k with h0 | h0
      · exact .inl h0
      · exact .inr ⟨by omega, d (by omega)⟩)
    have gk : ld (trB E k q (t.set k f.2)) k = f.2 := by rw [g1 k (Nat.le_refl _), ld_set _ _ _ _ hkt, if_pos rfl]
    refine ⟨fun j hj => ?_, fun _ => ?_, fun j hj => ?_⟩
    · rw [g1 j (by omega), ld_set _ _ _ _ hkt, if_neg (by omega)]
    · exact gk
    · by_cases e : j = k
      · subst e
        exact ⟨q, f, hq, by omega, gk, fun h0 => ⟨by omega, g2 h0⟩⟩
      · exact g3 j (by omega)

/-- The least loads of the truths that have not dropped yet. -/
def minD (ps : List Pt) (r : Rl) : Nat → Int
  | 0 => (pt ps 0).lo
  | j + 1 => max (pt ps (j + 1)).lo (minD ps r j - r.d + 1)

def ClD (r : Rl) (q p : Plc) : Prop := hpD r q p = false

structure SeekD (ps : List Pt) (r : Rl) (s : St) : Prop where
  ys : s.ys = searchL ps (chD ps r) (hpD r)
  ok : OkS ps s
  calm : ∀ p q, findP s.came p = some q → ClD r q p
  did : ∀ f, Known s f → f.1 + 1 < ps.length → ∀ l ∈ chD ps r f, Did ps (hpD r) s f l
theorem seekD {ps : List Pt} {r : Rl} (F : Sane ps r) : ∃ s, SeekD ps r s := by
  obtain ⟨s, h1, h2, h3, h4⟩ := search_full (ps := ps) (ch := chD ps r) (hp := hpD r) (Cl := ClD r) F.pos (fun f => (dropCh_len ps r f.2 _).2) (fun f l _ h => h)
  exact ⟨s, h1, h2, h3, h4⟩

theorem hpD_false {r : Rl} {q p : Plc} (h : q.1 = -1 ∨ q.2 - p.2 < r.d) : hpD r q p = false := by
  unfold hpD dropHap
  rcases h with h | h
  · simp [h]
  · simp [show ¬ r.d ≤ q.2 - p.2 by omega]
theorem hpD_true {r : Rl} {q p : Plc} (h0 : 0 ≤ q.1) (h : r.d ≤ q.2 - p.2) : hpD r q p = true := by
  unfold hpD dropHap
  simp [h, show q.1 ≠ -1 by omega]
theorem hpD_false' {r : Rl} {q p : Plc} (h0 : 0 ≤ q.1) (h : hpD r q p = false) : q.2 - p.2 < r.d := by
  refine Int.not_le.1 fun hc => ?_
  rw [hpD_true h0 hc] at h
  cases h

theorem inR_of {ps : List Pt} {i : Nat} {l : Int} (h : (pt ps i).lo ≤ l ∧ l ≤ (pt ps i).hi) : inR ps ((i : Int), l) = true := by
  unfold inR hasB
  simpa using h
theorem chD_mem {ps : List Pt} {r : Rl} {f : Plc} {i : Nat} (hf : f.1 + 1 = (i : Int)) {l : Int} : l ∈ chD ps r f ↔ l = (pt ps i).lo ∨ l = (pt ps i).hi ∨ (i ≠ 0 ∧ l = f.2 - r.d + 1) ∨ (i + 1 < ps.length ∧ l = (pt ps (i + 1)).lo + r.d) := by
  unfold chD dropCh
  rw [hf, Int.toNat_natCast]
  by_cases h0 : i = 0 <;> by_cases h1 : i + 1 < ps.length <;> simp [h0, h1]

/-- A choice that is no drop is known. -/
theorem SeekD.go {ps : List Pt} {r : Rl} {s : St} (S : SeekD ps r s) {f : Plc} {i : Nat} (hk : Known s f) (hf : f.1 + 1 = (i : Int)) (hi : i < ps.length) {l : Int} (hl : l ∈ chD ps r f) (hin : (pt ps i).lo ≤ l ∧ l ≤ (pt ps i).hi) (hh : f.1 = -1 ∨ f.2 - l < r.d) : Known s ((i : Int), l) := by
  have h := S.did f hk (by omega) l hl
  rw [Did, hf] at h
  exact .inr ((h (inR_of hin)).2 (hpD_false hh))
theorem SeekD.hit {ps : List Pt} {r : Rl} {s : St} (S : SeekD ps r s) {i : Nat} {v : Int} (hk : Known s ((i : Int), v)) (hi : i + 1 < ps.length) (hlo : (pt ps (i + 1)).lo ≤ (pt ps (i + 1)).hi) (hd : r.d ≤ v - (pt ps (i + 1)).lo) : endT ps s.came ((i : Int), v) (pt ps (i + 1)).lo ∈ searchL ps (chD ps r) (hpD r) := by
  have hf : ((i : Int), v).1 + 1 = ((i + 1 : Nat) : Int) := by simp
  have h := S.did ((i : Int), v) hk (by simp only; omega) _ ((chD_mem hf).2 (.inl rfl))
  rw [Did, hf] at h
  rw [← S.ys]
  exact (h (inR_of ⟨Int.le_refl _, hlo⟩)).1 (hpD_true (by simp) hd)

/-- What is read in a truth that the search brings. -/
theorem SeekD.read {ps : List Pt} {r : Rl} {s : St} (F : Sane ps r) (S : SeekD ps r s) {i : Nat} {v l : Int} (hk : Known s ((i : Int), v)) (hi : i + 1 < ps.length) (hd : r.d ≤ v - l) :
    (readR ps r (endT ps s.came ((i : Int), v) l)).ya = i ∧ (readR ps r (endT ps s.came ((i : Int), v) l)).y = v := by
  have hlen := F.len
  have hk' : (findP s.came ((i : Int), v)).isSome = true := hk.resolve_left fun e => by
    have : (i : Int) = -1 := congrArg Prod.fst e
    omega
  have ht0 : ((lowT ps).set (i + 1) l).length = 20 := by simp [(lowT_tr F).1]
  have he : endT ps s.came ((i : Int), v) l = trB s.came (i + 1) ((i : Int), v) ((lowT ps).set (i + 1) l) := rfl
  rw [he]
  obtain ⟨g1, g2, g3⟩ := trB_ld S.ok.tree hlen (i + 1) ((i : Int), v) ((lowT ps).set (i + 1) l) ht0 (by omega) (.inr ⟨by simp, hk'⟩)
  generalize trB s.came (i + 1) ((i : Int), v) ((lowT ps).set (i + 1) l) = u at g1 g2 g3 ⊢
  have e1 : ld u (i + 1) = l := by rw [g1 _ (Nat.le_refl _), ld_set _ _ _ _ (by rw [(lowT_tr F).1]; omega), if_pos rfl]
  have e0 : ld u i = v := g2 (by omega)
  have hya : fst (dropB r.d u) (ps.length - 1) = (i : Int) := by
    refine fst_hit (by omega) ?_ fun j hj => ?_
    · unfold dropB
      rw [e0, e1]
      simpa using hd
    · obtain ⟨q, p, hq, hp1, hp2, hp3⟩ := g3 (j + 1) (by omega)
      obtain ⟨a, b⟩ := hp3 (by omega)
      have hc := hpD_false' (by omega) (S.calm p q hq)
      unfold dropB
      rw [hp2, show ld u j = q.2 from b]
      simp only [decide_eq_false_iff_not, Int.not_le]
      exact hc
  refine ⟨hya, ?_⟩
  show (if fst (dropB r.d u) (ps.length - 1) = -1 then 0 else ld u (fst (dropB r.d u) (ps.length - 1)).toNat) = v
  rw [hya, if_neg (by omega), Int.toNat_natCast, e0]

theorem minD_lo (ps : List Pt) (r : Rl) : ∀ j, (pt ps j).lo ≤ minD ps r j
  | 0 => Int.le_refl _
  | j + 1 => by unfold minD; omega

/-- The least loads are reached, and none is less. -/
theorem SeekD.least {ps : List Pt} {r : Rl} {s : St} (F : Sane ps r) (S : SeekD ps r s) {t : List Int} (h : IsTr ps t) : ∀ k : Nat, k < ps.length → (∀ j, j < k → ld t j - ld t (j + 1) < r.d) → minD ps r k ≤ ld t k ∧ Known s ((k : Int), minD ps r k)
  | 0, hk, _ => by
    have h1 := h.2.1 0 hk
    refine ⟨h1.1, S.go (f := (-1, 0)) (i := 0) (.inl rfl) (by decide) hk ((chD_mem (by decide)).2 (.inl rfl)) ⟨Int.le_refl _, ?_⟩ (.inl rfl)⟩
    show (pt ps 0).lo ≤ (pt ps 0).hi
    omega
  | k + 1, hk, hd => by
    obtain ⟨i1, i2⟩ := SeekD.least F S h k (by omega) fun j hj => hd j (by omega)
    have h1 := h.2.1 (k + 1) hk
    have h2 := hd k (by omega)
    have hm : minD ps r (k + 1) = max (pt ps (k + 1)).lo (minD ps r k - r.d + 1) := rfl
    have hle : minD ps r (k + 1) ≤ ld t (k + 1) := by omega
    refine ⟨hle, S.go i2 (by simp) hk ((chD_mem (i := k + 1) (by simp)).2 ?_) ⟨by omega, by omega⟩ (.inr (by simp only; omega))⟩
    rcases Int.le_total (minD ps r k - r.d + 1) (pt ps (k + 1)).lo with hx | hx
    · exact .inl (by omega)
    · exact .inr (.inr (.inl ⟨by omega, by simp only; omega⟩))

/-- A choice for the point i, by what may stand before it. -/
theorem SeekD.reach {ps : List Pt} {r : Rl} {s : St} (F : Sane ps r) (S : SeekD ps r s) {t : List Int} (h : IsTr ps t) (i : Nat) (hi : i + 1 < ps.length) (hd : ∀ j, j < i → ld t j - ld t (j + 1) < r.d) {v : Int} (hv : v = (pt ps i).hi ∨ v = (pt ps (i + 1)).lo + r.d) (hm : minD ps r i ≤ v) (hin : v ≤ (pt ps i).hi) : Known s ((i : Int), v) := by
  have hlo := minD_lo ps r i
  have hmem : ∀ f : Plc, f.1 + 1 = (i : Int) → v ∈ chD ps r f := fun f hf => (chD_mem hf).2 (by
    rcases hv with hv | hv
    · exact .inr (.inl hv)
    · exact .inr (.inr (.inr ⟨hi, hv⟩)))
  cases i with
  | zero => exact S.go (f := (-1, 0)) (.inl rfl) (by decide) (by omega) (hmem _ (by decide)) ⟨by omega, hin⟩ (.inl rfl)
  | succ i =>
    obtain ⟨i1, i2⟩ := S.least F h i (by omega) fun j hj => hd j (by omega)
    have hm' : minD ps r (i + 1) = max (pt ps (i + 1)).lo (minD ps r i - r.d + 1) := rfl
    exact S.go i2 (by simp) (by omega) (hmem _ (by simp)) ⟨by omega, hin⟩ (.inr (by simp only; omega))

theorem yield_at {ps : List Pt} {r : Rl} {t : List Int} (hy : (readR ps r t).ya ≠ -1) : ∃ i : Nat, i + 1 < ps.length ∧ (readR ps r t).ya = i ∧ (readR ps r t).y = ld t i ∧ r.d ≤ ld t i - ld t (i + 1) ∧ ∀ j, j < i → ld t j - ld t (j + 1) < r.d := by
  rcases fst_cases (dropB r.d t) (ps.length - 1) with ⟨e, _⟩ | ⟨k, hk, e, hB, hno⟩
  · exact absurd e hy
  · refine ⟨k, by omega, e, ?_, by simpa [dropB] using hB, fun j hj => ?_⟩
    · show (if fst (dropB r.d t) (ps.length - 1) = -1 then 0 else ld t (fst (dropB r.d t) (ps.length - 1)).toNat) = ld t k
      rw [e, if_neg (by omega), Int.toNat_natCast]
    · have := hno j hj
      simp only [dropB, decide_eq_false_iff_not] at this
      omega

/-- For each truth that has a yield the search brings one with the same yield point and no less a yield, and one with the same yield point and no greater a yield. -/
theorem yields_both {ps : List Pt} {r : Rl} (F : Sane ps r) {t : List Int} (h : IsTr ps t) (hy : (readR ps r t).ya ≠ -1) :
    (∃ u ∈ searchL ps (chD ps r) (hpD r), (readR ps r u).ya = (readR ps r t).ya ∧ (readR ps r t).y ≤ (readR ps r u).y) ∧
    ∃ u ∈ searchL ps (chD ps r) (hpD r), (readR ps r u).ya = (readR ps r t).ya ∧ (readR ps r u).y ≤ (readR ps r t).y := by
  obtain ⟨s, S⟩ := seekD F
  obtain ⟨i, hi, e1, e2, hd, hno⟩ := yield_at hy
  obtain ⟨m1, m2⟩ := S.least F h i (by omega) hno
  have hti := h.2.1 i (by omega)
  have htn := h.2.1 (i + 1) hi
  rw [e1, e2]
  constructor
  · have hk := S.reach F h i hi hno (v := (pt ps i).hi) (.inl rfl) (by omega) (Int.le_refl _)
    have hd' : r.d ≤ (pt ps i).hi - (pt ps (i + 1)).lo := by omega
    obtain ⟨r1, r2⟩ := S.read F hk hi hd'
    exact ⟨_, S.hit hk hi (by omega) hd', r1, by omega⟩
  · rcases Int.le_total ((pt ps (i + 1)).lo + r.d) (minD ps r i) with hx | hx
    · have hd' : r.d ≤ minD ps r i - (pt ps (i + 1)).lo := by omega
      obtain ⟨r1, r2⟩ := S.read F m2 hi hd'
      exact ⟨_, S.hit m2 hi (by omega) hd', r1, by omega⟩
    · have hk := S.reach F h i hi hno (v := (pt ps (i + 1)).lo + r.d) (.inr rfl) hx (by omega)
      have hd' : r.d ≤ (pt ps (i + 1)).lo + r.d - (pt ps (i + 1)).lo := by omega
      obtain ⟨r1, r2⟩ := S.read F hk hi hd'
      exact ⟨_, S.hit hk hi (by omega) hd', r1, by omega⟩

/-- The yield of every truth that has one lies in the span. -/
theorem held_yield {ps : List Pt} {r : Rl} (F : Sane ps r) {t : List Int} (h : IsTr ps t) (hy : (readR ps r t).ya ≠ -1) :
    ∃ lo hi, bnd (numsL ps r (fun x => (x.ya, x.y)) (searchL ps (chD ps r) (hpD r))) = some (lo, hi) ∧ lo ≤ (readR ps r t).y ∧ (readR ps r t).y ≤ hi := by
  obtain ⟨⟨u, hu, a1, a2⟩, ⟨w, hw, b1, b2⟩⟩ := yields_both F h hy
  have hu' := nums_in (ps := ps) (r := r) (fnd := fun x => (x.ya, x.y)) hu (by simpa [a1] using hy)
  have hw' := nums_in (ps := ps) (r := r) (fnd := fun x => (x.ya, x.y)) hw (by simpa [b1] using hy)
  cases hb : bnd (numsL ps r (fun x => (x.ya, x.y)) (searchL ps (chD ps r) (hpD r))) with
  | none =>
    have := (bnd_mem _ _ rfl).1 hb
    rw [this] at hu'
    cases hu'
  | some x =>
    obtain ⟨lo, hi⟩ := x
    have hin := bnd_in hb
    have h1 := (hin _ hu').2
    have h2 := (hin _ hw').1
    exact ⟨lo, hi, rfl, Int.le_trans h2 b2, Int.le_trans a2 h1⟩
end Go.Proofs.Ytfjlnejeffkdoaa

/- The search for a meeting reaches the ends of all proof loads, and all meeting points: plain numbers. No condition but those of a valid curve. -/
namespace Go.Proofs.Ytfjlnejeffkdoaa
open Go.RowKit

/-- Where a straight piece from a to b meets the line from p to q. -/
def crossN (a b p q : Int) : Int := (a * q - b * p) / (a - p + q - b)

theorem div_mono {N D N' D' : Int} (hD : 0 < D) (hD' : 0 < D') (h : N * D' ≤ N' * D) : N / D ≤ N' / D' := by
  rw [Int.le_ediv_iff_mul_le hD']
  have h1 : N / D * D ≤ N := Int.ediv_mul_le N (by omega)
  have h2 : N / D * D * D' ≤ N * D' := Int.mul_le_mul_of_nonneg_right h1 (by omega)
  have h3 : N / D * D' * D ≤ N' * D := by
    rw [Int.mul_right_comm]
    exact Int.le_trans h2 h
  exact Int.le_of_mul_le_mul_right h3 hD

theorem cross_mono {a b a' b' p q : Int} (ha : p < a) (hb : b' ≤ q) (hpq : p ≤ q) (haa : a ≤ a') (hbb : b ≤ b') : crossN a b p q ≤ crossN a' b' p q := by
  unfold crossN
  obtain ⟨x, hx⟩ : ∃ x, a' = a + x := ⟨a' - a, by omega⟩
  obtain ⟨y, hy⟩ : ∃ y, b' = b + y := ⟨b' - b, by omega⟩
  obtain ⟨z, hz⟩ : ∃ z, q = p + z := ⟨q - p, by omega⟩
  obtain ⟨al, hal⟩ : ∃ al, a = p + al := ⟨a - p, by omega⟩
  obtain ⟨be, hbe⟩ : ∃ be, b' = q - be := ⟨q - b', by omega⟩
  refine div_mono (by omega) (by omega) ?_
  have h1 : 0 ≤ z * (al * y + x * be + x * y) := Int.mul_nonneg (by omega) (by
    have := Int.mul_nonneg (a := al) (b := y) (by omega) (by omega)
    have := Int.mul_nonneg (a := x) (b := be) (by omega) (by omega)
    have := Int.mul_nonneg (a := x) (b := y) (by omega) (by omega)
    omega)
  have h2 : (a' * q - b' * p) * (a - p + q - b) - (a * q - b * p) * (a' - p + q - b') = z * (al * y + x * be + x * y) := by
    obtain rfl : b = p + z - be - y := by omega
    subst hx hal hz hbe
    grind
  omega

theorem cross_in {a b p q : Int} (ha : p < a) (hb : b ≤ q) (hpq : p ≤ q) : p ≤ crossN a b p q ∧ crossN a b p q ≤ q := by
  unfold crossN
  obtain ⟨z, hz⟩ : ∃ z, q = p + z := ⟨q - p, by omega⟩
  obtain ⟨al, hal⟩ : ∃ al, a = p + al := ⟨a - p, by omega⟩
  obtain ⟨be, hbe⟩ : ∃ be, b = q - be := ⟨q - b, by omega⟩
  have hD : 0 < a - p + q - b := by omega
  have h1 : a * q - b * p - p * (a - p + q - b) = al * z := by
    subst hbe hal hz
    grind
  have h2 : q * (a - p + q - b) - (a * q - b * p) = be * z := by
    subst hbe hal hz
    grind
  have h3 := Int.mul_nonneg (a := al) (b := z) (by omega) (by omega)
  have h4 := Int.mul_nonneg (a := be) (b := z) (by omega) (by omega)
  constructor
  · rw [Int.le_ediv_iff_mul_le hD]
    omega
  · have h5 := Int.ediv_mul_le (a * q - b * p) (b := a - p + q - b) (by omega)
    refine Int.le_of_mul_le_mul_right (a := a - p + q - b) ?_ hD
    omega

def ClM (ps : List Pt) (r : Rl) (q p : Plc) : Prop := hpM ps r q p = false

structure SeekM (ps : List Pt) (r : Rl) (s : St) : Prop where
  ys : s.ys = searchL ps (chM ps r) (hpM ps r)
  ok : OkS ps s
  calm : ∀ p q, findP s.came p = some q → ClM ps r q p
  did : ∀ f, Known s f → f.1 + 1 < ps.length → ∀ l ∈ chM ps r f, Did ps (hpM ps r) s f l
theorem seekM {ps : List Pt} {r : Rl} (F : Sane ps r) : ∃ s, SeekM ps r s := by
  obtain ⟨s, h1, h2, h3, h4⟩ := search_full (ps := ps) (ch := chM ps r) (hp := hpM ps r) (Cl := ClM ps r) F.pos (fun f => by simp [chM]) (fun f l _ h => h)
  exact ⟨s, h1, h2, h3, h4⟩

theorem chM_mem {ps : List Pt} {r : Rl} {f : Plc} {i : Nat} (hf : f.1 + 1 = (i : Int)) {l : Int} : l ∈ chM ps r f ↔ l = (pt ps i).lo ∨ l = (pt ps i).hi ∨ l = lineI ps r i := by
  unfold chM
  rw [hf, Int.toNat_natCast]
  simp

theorem SeekM.go {ps : List Pt} {r : Rl} {s : St} (S : SeekM ps r s) {f : Plc} {i : Nat} (hk : Known s f) (hf : f.1 + 1 = (i : Int)) (hi : i < ps.length) {l : Int} (hl : l = (pt ps i).lo ∨ l = (pt ps i).hi) (hin : (pt ps i).lo ≤ l ∧ l ≤ (pt ps i).hi) (hh : lineI ps r i < l) : Known s ((i : Int), l) := by
  have h := S.did f hk (by omega) l ((chM_mem hf).2 (hl.elim .inl fun h => .inr (.inl h)))
  rw [Did, hf] at h
  refine .inr ((h (inR_of hin)).2 ?_)
  unfold hpM
  simp only [Int.toNat_natCast, decide_eq_false_iff_not]
  omega
theorem SeekM.hit {ps : List Pt} {r : Rl} {s : St} (S : SeekM ps r s) {f : Plc} {i : Nat} (hk : Known s f) (hf : f.1 + 1 = (i : Int)) (hi : i < ps.length) {l : Int} (hl : l = (pt ps i).lo ∨ l = (pt ps i).hi ∨ l = lineI ps r i) (hin : (pt ps i).lo ≤ l ∧ l ≤ (pt ps i).hi) (hh : l ≤ lineI ps r i) : endT ps s.came f l ∈ searchL ps (chM ps r) (hpM ps r) := by
  have h := S.did f hk (by omega) l ((chM_mem hf).2 hl)
  rw [Did, hf] at h
  rw [← S.ys]
  refine (h (inR_of hin)).1 ?_
  unfold hpM
  simpa using hh

/-- What is read in a truth that the search brings. -/
theorem SeekM.read {ps : List Pt} {r : Rl} {s : St} (F : Sane ps r) (S : SeekM ps r s) {f : Plc} {i : Nat} (hk : Known s f) (hf : f.1 + 1 = (i : Int)) (hi : i < ps.length) {l : Int} (hl : l ≤ lineI ps r i) :
    (readR ps r (endT ps s.came f l)).ma = i ∧ (i = 0 → (readR ps r (endT ps s.came f l)).pl = l) ∧ (0 < i → (readR ps r (endT ps s.came f l)).pl = crossN f.2 l (lineI ps r (i - 1)) (lineI ps r i)) := by
  have hlen := F.len
  have ht0 : ((lowT ps).set i l).length = 20 := by simp [(lowT_tr F).1]
  have he : endT ps s.came f l = trB s.came i f ((lowT ps).set i l) := by
    unfold endT
    rw [hf, Int.toNat_natCast]
  have hf' : i = 0 ∨ f.1 = (i : Int) - 1 ∧ (findP s.came f).isSome = true := by
    rcases hk with rfl | hk
    · left
      have : (-1 : Int) + 1 = i := hf
      omega
    · exact .inr ⟨by omega, hk⟩
  rw [he]
  obtain ⟨g1, g2, g3⟩ := trB_ld S.ok.tree hlen i f ((lowT ps).set i l) ht0 (by omega) hf'
  generalize trB s.came i f ((lowT ps).set i l) = u at g1 g2 g3 ⊢
  have e1 : ld u i = l := by rw [g1 _ (Nat.le_refl _), ld_set _ _ _ _ (by rw [(lowT_tr F).1]; omega), if_pos rfl]
  have hma : fst (meetB ps r u) ps.length = (i : Int) := by
    refine fst_hit hi ?_ fun j hj => ?_
    · unfold meetB
      rw [e1]
      simpa using hl
    · obtain ⟨q, p, hq, hp1, hp2, -⟩ := g3 j hj
      have hc := S.calm p q hq
      simp only [ClM, hpM, hp1, Int.toNat_natCast] at hc
      unfold meetB
      rw [hp2]
      exact hc
  have hpl : (readR ps r u).pl = plI ps r u i := by
    show (if fst (meetB ps r u) ps.length = -1 then 0 else plI ps r u (fst (meetB ps r u) ps.length).toNat) = _
    rw [hma, if_neg (by omega), Int.toNat_natCast]
  refine ⟨hma, fun h0 => ?_, fun h0 => ?_⟩
  · subst h0
    rw [hpl]
    exact e1
  · obtain ⟨j, rfl⟩ : ∃ j, i = j + 1 := ⟨i - 1, by omega⟩
    have e0 : ld u j = f.2 := g2 (by omega)
    rw [hpl]
    show (ld u j * lineI ps r (j + 1) - ld u (j + 1) * lineI ps r j) / (ld u j - lineI ps r j + lineI ps r (j + 1) - ld u (j + 1)) = _
    rw [e0, e1]
    rfl

theorem meet_at {ps : List Pt} {r : Rl} {t : List Int} (hy : (readR ps r t).ma ≠ -1) : ∃ i : Nat, i < ps.length ∧ (readR ps r t).ma = i ∧ (i = 0 → (readR ps r t).pl = ld t 0) ∧ (0 < i → (readR ps r t).pl = crossN (ld t (i - 1)) (ld t i) (lineI ps r (i - 1)) (lineI ps r i)) ∧
    ld t i ≤ lineI ps r i ∧ ∀ j, j < i → lineI ps r j < ld t j := by
  rcases fst_cases (meetB ps r t) ps.length with ⟨e, _⟩ | ⟨k, hk, e, hB, hno⟩
  · exact absurd e hy
  · have hpl : (readR ps r t).pl = plI ps r t k := by
      show (if fst (meetB ps r t) ps.length = -1 then 0 else plI ps r t (fst (meetB ps r t) ps.length).toNat) = _
      rw [e, if_neg (by omega), Int.toNat_natCast]
    refine ⟨k, hk, e, fun h0 => ?_, fun h0 => ?_, by simpa [meetB] using hB, fun j hj => ?_⟩
    · subst h0
      exact hpl
    · obtain ⟨j, rfl⟩ : ∃ j, k = j + 1 := ⟨k - 1, by omega⟩
      exact hpl
    · have := hno j hj
      simp only [meetB, decide_eq_false_iff_not] at this
      omega

/-- The places that have met nothing yet are reached, with the greatest load and, where it lies above the line, with the least. -/
theorem SeekM.before {ps : List Pt} {r : Rl} {s : St} (S : SeekM ps r s) {t : List Int} (h : IsTr ps t) : ∀ i : Nat, i < ps.length → (∀ j, j < i → lineI ps r j < ld t j) → ∃ f, Known s f ∧ f.1 + 1 = (i : Int) ∧ (0 < i → f.2 = (pt ps (i - 1)).hi)
  | 0, _, _ => ⟨(-1, 0), .inl rfl, by decide, fun h => absurd h (by omega)⟩
  | i + 1, hi, hd => by
    obtain ⟨f, h1, h2, -⟩ := SeekM.before S h i (by omega) fun j hj => hd j (by omega)
    have hti := h.2.1 i (by omega)
    have hdi := hd i (by omega)
    exact ⟨((i : Int), (pt ps i).hi), S.go h1 h2 (by omega) (.inr rfl) ⟨by omega, Int.le_refl _⟩ (by omega), by simp, fun _ => rfl⟩

theorem line_mono {ps : List Pt} {r : Rl} (F : Sane ps r) {i : Nat} (h : (pt ps i).s < (pt ps (i + 1)).s) : lineI ps r i ≤ lineI ps r (i + 1) := by
  unfold lineI
  have hk := F.k
  exact Int.mul_le_mul_of_nonneg_left (by omega) (by omega)

/-- For each truth that has a proof load the search brings one with the same meeting point and no less a proof load, and one with no greater a proof load. -/
theorem proofs_both {ps : List Pt} {r : Rl} (F : Sane ps r) (hst : ∀ i, i + 1 < ps.length → (pt ps i).s < (pt ps (i + 1)).s) {t : List Int} (h : IsTr ps t) (hy : (readR ps r t).ma ≠ -1) :
    (∃ u ∈ searchL ps (chM ps r) (hpM ps r), (readR ps r u).ma = (readR ps r t).ma ∧ (readR ps r t).pl ≤ (readR ps r u).pl) ∧
    ∃ u ∈ searchL ps (chM ps r) (hpM ps r), (readR ps r u).ma ≠ -1 ∧ (readR ps r u).pl ≤ (readR ps r t).pl := by
  obtain ⟨s, S⟩ := seekM F
  obtain ⟨i, hi, e1, e2, e3, hm, hno⟩ := meet_at hy
  have hti := h.2.1 i hi
  obtain ⟨f, k1, k2, k3⟩ := S.before h i hi hno
  rw [e1]
  constructor
  · obtain ⟨l, hl, hin, hle, hge⟩ : ∃ l, (l = (pt ps i).lo ∨ l = (pt ps i).hi ∨ l = lineI ps r i) ∧ ((pt ps i).lo ≤ l ∧ l ≤ (pt ps i).hi) ∧ l ≤ lineI ps r i ∧ ld t i ≤ l := by
      rcases Int.le_total (lineI ps r i) (pt ps i).hi with hx | hx
      · exact ⟨_, .inr (.inr rfl), ⟨by omega, hx⟩, Int.le_refl _, hm⟩
      · exact ⟨_, .inr (.inl rfl), ⟨by omega, Int.le_refl _⟩, hx, hti.2⟩
    obtain ⟨r1, r2, r3⟩ := S.read F k1 k2 hi hle
    refine ⟨_, S.hit k1 k2 hi hl hin hle, r1, ?_⟩
    rcases Nat.eq_zero_or_pos i with h0 | h0
    · rw [e2 h0, r2 h0]
      subst h0
      exact hge
    · have hb := hno (i - 1) (by omega)
      have htb := h.2.1 (i - 1) (by omega)
      have hmono := line_mono F (i := i - 1) (hst (i - 1) (by omega))
      rw [show i - 1 + 1 = i by omega] at hmono
      rw [e3 h0, r3 h0, k3 h0]
      exact cross_mono hb hle hmono htb.2 hge
  · have hlo : (pt ps i).lo ≤ lineI ps r i := by omega
    rcases Nat.eq_zero_or_pos i with h0 | h0
    · obtain ⟨r1, r2, -⟩ := S.read F k1 k2 hi hlo
      refine ⟨_, S.hit k1 k2 hi (.inl rfl) ⟨Int.le_refl _, by omega⟩ hlo, by omega, ?_⟩
      rw [e2 h0, r2 h0]
      subst h0
      exact hti.1
    · obtain ⟨j, rfl⟩ : ∃ j, i = j + 1 := ⟨i - 1, by omega⟩
      have hb := hno j (by omega)
      have htb := h.2.1 j (by omega)
      have hmono := line_mono F (hst j hi)
      obtain ⟨g, c1, c2, c3⟩ := S.before h j (by omega) fun x hx => hno x (by omega)
      rw [e3 h0, Nat.add_sub_cancel]
      rcases (show lineI ps r j < (pt ps j).lo ∨ (pt ps j).lo ≤ lineI ps r j by omega) with hx | hx
      · have hk := S.go c1 c2 (by omega) (l := (pt ps j).lo) (.inl rfl) ⟨Int.le_refl _, by omega⟩ hx
        obtain ⟨r1, -, r3⟩ := S.read F hk (i := j + 1) (by simp) hi hlo
        refine ⟨_, S.hit hk (by simp) hi (.inl rfl) ⟨Int.le_refl _, by omega⟩ hlo, by omega, ?_⟩
        rw [r3 h0, Nat.add_sub_cancel]
        exact cross_mono hx hm hmono htb.1 hti.1
      · obtain ⟨r1, r2, r3⟩ := S.read F c1 c2 (by omega) hx
        refine ⟨_, S.hit c1 c2 (by omega) (.inl rfl) ⟨Int.le_refl _, by omega⟩ hx, by omega, ?_⟩
        have hq := (cross_in hb hm hmono).1
        refine Int.le_trans ?_ hq
        rcases Nat.eq_zero_or_pos j with h1 | h1
        · rw [r2 h1]
          exact hx
        · have hb2 := hno (j - 1) (by omega)
          have htb2 := h.2.1 (j - 1) (by omega)
          have hmono2 := line_mono F (i := j - 1) (hst (j - 1) (by omega))
          rw [show j - 1 + 1 = j by omega] at hmono2
          rw [r3 h1, c3 h1]
          exact (cross_in (by omega) hx hmono2).2

/-- The proof load of every truth that has one lies in the span. -/
theorem held_proof {ps : List Pt} {r : Rl} (F : Sane ps r) (hst : ∀ i, i + 1 < ps.length → (pt ps i).s < (pt ps (i + 1)).s) {t : List Int} (h : IsTr ps t) (hy : (readR ps r t).ma ≠ -1) :
    ∃ lo hi, bnd (numsL ps r (fun x => (x.ma, x.pl)) (searchL ps (chM ps r) (hpM ps r))) = some (lo, hi) ∧ lo ≤ (readR ps r t).pl ∧ (readR ps r t).pl ≤ hi := by
  obtain ⟨⟨u, hu, a1, a2⟩, ⟨w, hw, b1, b2⟩⟩ := proofs_both F hst h hy
  have hu' := nums_in (ps := ps) (r := r) (fnd := fun x => (x.ma, x.pl)) hu (by simpa [a1] using hy)
  have hw' := nums_in (ps := ps) (r := r) (fnd := fun x => (x.ma, x.pl)) hw (by simpa using b1)
  cases hb : bnd (numsL ps r (fun x => (x.ma, x.pl)) (searchL ps (chM ps r) (hpM ps r))) with
  | none =>
    have := (bnd_mem _ _ rfl).1 hb
    rw [this] at hu'
    cases hu'
  | some x =>
    obtain ⟨lo, hi⟩ := x
    have hin := bnd_in hb
    have h1 := (hin _ hu').2
    have h2 := (hin _ hw').1
    exact ⟨lo, hi, rfl, Int.le_trans h2 b2, Int.le_trans a2 h1⟩
end Go.Proofs.Ytfjlnejeffkdoaa

/- The bounds of the brought truths are the span, for each kind: plain numbers. No condition but those of a valid curve. -/
namespace Go.Proofs.Ytfjlnejeffkdoaa
open Go.RowKit

theorem fold_tr {ps : List Pt} {hp : Plc → Plc → Bool} {f : Plc} (hlen : ps.length ≤ 20) (hlo : IsTr ps (lowT ps)) (hn : f.1 + 1 < ps.length) : ∀ (ls : List Int) (s : St), OkS ps s → Known s f → (∀ t ∈ s.ys, IsTr ps t) →
    OkS ps (ls.foldl (step1 ps hp f) s) ∧ ∀ t ∈ (ls.foldl (step1 ps hp f) s).ys, IsTr ps t
  | [], s, hok, _, hy => ⟨hok, hy⟩
  | l :: ls, s, hok, hf, hy => by
    obtain ⟨ok1, hm, -⟩ := hok.step (hp := hp) hf hn l
    refine fold_tr hlen hlo hn ls (step1 ps hp f s l) ok1 (hf.imp id (hm f)) fun t ht => ?_
    unfold step1 at ht
    split at ht
    · rename_i hin
      split at ht
      · rcases List.mem_append.1 ht with ht | ht
        · exact hy t ht
        · obtain rfl : t = endT ps s.came f l := by simpa using ht
          exact endT_tr hok hlen hlo hf hn hin
      · split at ht
        · exact hy t ht
        · exact hy t ht
    · exact hy t ht

theorem run_tr {ps : List Pt} {ch : Plc → List Int} {hp : Plc → Plc → Bool} (hlen : ps.length ≤ 20) (hpos : 0 < ps.length) (hlo : IsTr ps (lowT ps)) : ∀ (k : Nat) (s : St), OkS ps s → (∀ t ∈ s.ys, IsTr ps t) → ∀ t ∈ (runS ps ch hp k s).ys, IsTr ps t
  | 0, s, _, hy => hy
  | k + 1, s, hok, hy => by
    obtain ⟨opn, came, ys⟩ := s
    cases opn with
    | nil => exact hy
    | cons f rest =>
      simp only [runS]
      split
      · exact hy
      · rename_i hne
        have hf : Known ⟨rest, came, ys⟩ f := hok.opn f (by simp)
        have hn : f.1 + 1 < ps.length := by
          rcases hok.opn f (by simp) with rfl | h
          · show (-1 : Int) + 1 < ps.length
            omega
          · have := hok.at h
            omega
        have hok0 : OkS ps ⟨rest, came, ys⟩ := ⟨hok.tree, hok.rng, fun p hp => hok.opn p (by simp [hp])⟩
        obtain ⟨a, b⟩ := fold_tr (hp := hp) hlen hlo hn (ch f) ⟨rest, came, ys⟩ hok0 hf hy
        exact run_tr hlen hpos hlo k _ a b

theorem search_tr {ps : List Pt} {r : Rl} (F : Sane ps r) (ch : Plc → List Int) (hp : Plc → Plc → Bool) : ∀ t ∈ searchL ps ch hp, IsTr ps t :=
  run_tr F.len F.pos (lowT_tr F) _ _ ⟨fun p q h => (by cases h), fun p q h => (by cases h), fun p hp => .inl (by simpa using hp)⟩ fun t ht => by cases ht

/-- The brought truths of a kind, and what is found in them. -/
def tsOf (ps : List Pt) (r : Rl) (kd : Int) : List (List Int) := if kd = 0 then raised ps ps.length else if kd = 1 then searchL ps (chD ps r) (hpD r) else if kd = 2 then searchL ps (chM ps r) (hpM ps r) else [lowT ps, highT ps]
def fndOf (kd : Int) (x : Rs) : Int × Int := if kd = 0 then (x.pk, x.st) else if kd = 1 then (x.ya, x.y) else if kd = 2 then (x.ma, x.pl) else (0, x.wk)
def spanP (ps : List Pt) (r : Rl) (kd : Int) : Option (Int × Int) := bnd (numsL ps r (fndOf kd) (tsOf ps r kd))

theorem ts_tr {ps : List Pt} {r : Rl} (F : Sane ps r) (kd : Int) : ∀ t ∈ tsOf ps r kd, IsTr ps t := by
  unfold tsOf
  split
  · intro t ht
    simp only [raised, List.mem_cons, List.mem_map, List.mem_range] at ht
    rcases ht with rfl | ⟨i, hi, rfl⟩
    · exact lowT_tr F
    · exact raiseT_tr F i hi
  · split
    · exact search_tr F _ _
    · split
      · exact search_tr F _ _
      · intro t ht
        simp only [List.mem_cons, List.not_mem_nil, or_false] at ht
        rcases ht with rfl | rfl
        · exact lowT_tr F
        · exact highT_tr F

theorem goods_st {ps : List Pt} (hg : goodsB ps 0 = true) : ∀ i, i + 1 < ps.length → (pt ps i).s < (pt ps (i + 1)).s := fun i hi => by
  have := (goodB_spec hg hi).1
  simpa using this

theorem fst_lo (B : Nat → Bool) (n : Nat) : fst B n = -1 ∨ 0 ≤ fst B n := by
  rcases fst_cases B n with ⟨e, _⟩ | ⟨k, _, e, _⟩
  · exact .inl e
  · exact .inr (by omega)
theorem is_fnd {ps : List Pt} {r : Rl} {t : List Int} (F : Sane ps r) (h : IsTr ps t) (kd : Int) : (fndOf kd (readR ps r t)).1 ≠ -1 ↔ isOf kd (readR ps r t) = true := by
  have hy : (readR ps r t).ya = -1 ∨ 0 ≤ (readR ps r t).ya := fst_lo _ _
  have hm : (readR ps r t).ma = -1 ∨ 0 ≤ (readR ps r t).ma := fst_lo _ _
  have hp := tr_pk F h
  unfold fndOf isOf
  by_cases h0 : kd = 0
  · subst h0
    simpa using hp
  · by_cases h1 : kd = 1
    · subst h1
      simp
      omega
    · by_cases h2 : kd = 2
      · subst h2
        simp
        omega
      · simp [h0, h1, h2]
theorem num_fnd (kd : Int) (x : Rs) : (fndOf kd x).2 = numOf kd x := by
  unfold fndOf numOf
  split
  · rfl
  · split
    · rfl
    · split <;> rfl

/-- Each truth that has it lies in the bounds. -/
theorem span_all {ps : List Pt} {r : Rl} (F : Sane ps r) (hg : goodsB ps 0 = true) (kd : Int) (hk : kd = 0 ∨ kd = 1 ∨ kd = 2 ∨ kd = 3) {t : List Int} (h : IsTr ps t) (hi : isOf kd (readR ps r t) = true) :
    ∃ lo hi, spanP ps r kd = some (lo, hi) ∧ lo ≤ numOf kd (readR ps r t) ∧ numOf kd (readR ps r t) ≤ hi := by
  have some_of : ∀ {u : List Int}, u ∈ tsOf ps r kd → isOf kd (readR ps r u) = true → ∃ lo hi, spanP ps r kd = some (lo, hi) := fun {u} hu hiu => by
    cases hb : spanP ps r kd with
    | some x => exact ⟨x.1, x.2, rfl⟩
    | none =>
      have h1 := (bnd_mem _ _ rfl).1 hb
      have h2 := nums_in (ps := ps) (r := r) (fnd := fndOf kd) hu ((is_fnd F (ts_tr F kd u hu) kd).2 hiu)
      rw [h1] at h2
      cases h2
  rcases hk with rfl | rfl | rfl | rfl
  · obtain ⟨lo, hi', hb⟩ := some_of (u := lowT ps) (by simp [tsOf, raised]) rfl
    obtain ⟨a, b⟩ := span_strength F (lo := lo) (hi := hi') hb h
    exact ⟨lo, hi', hb, a, b⟩
  · have hy := (is_fnd F h 1).2 hi
    obtain ⟨lo, hi', hb, a, b⟩ := held_yield F h hy
    exact ⟨lo, hi', hb, a, b⟩
  · have hy := (is_fnd F h 2).2 hi
    obtain ⟨lo, hi', hb, a, b⟩ := held_proof F (goods_st hg) h hy
    exact ⟨lo, hi', hb, a, b⟩
  · obtain ⟨lo, hi', hb⟩ := some_of (u := lowT ps) (by simp [tsOf]) rfl
    obtain ⟨a, b⟩ := span_work F hg (lo := lo) (hi := hi') hb h
    exact ⟨lo, hi', hb, a, b⟩

/-- Both bounds are reached. -/
theorem span_ends {ps : List Pt} {r : Rl} (F : Sane ps r) (kd : Int) {lo hi : Int} (hb : spanP ps r kd = some (lo, hi)) :
    (∃ t, IsTr ps t ∧ isOf kd (readR ps r t) = true ∧ numOf kd (readR ps r t) = lo) ∧ ∃ t, IsTr ps t ∧ isOf kd (readR ps r t) = true ∧ numOf kd (readR ps r t) = hi := by
  obtain ⟨⟨x, hx, ex⟩, ⟨y, hy, ey⟩, -⟩ := (bnd_mem _ _ rfl).2 lo hi hb
  have key : ∀ z, z ∈ numsL ps r (fndOf kd) (tsOf ps r kd) → ∃ t, IsTr ps t ∧ isOf kd (readR ps r t) = true ∧ numOf kd (readR ps r t) = z.2 := fun z hz => by
    simp only [numsL, List.mem_filter, List.mem_map, bne_iff_ne] at hz
    obtain ⟨⟨t, ht, rfl⟩, hne⟩ := hz
    have htr := ts_tr F kd t ht
    exact ⟨t, htr, (is_fnd F htr kd).1 hne, (num_fnd kd _).symm⟩
  obtain ⟨t, a, b, c⟩ := key x hx
  obtain ⟨u, d, e, f⟩ := key y hy
  exact ⟨⟨t, a, b, c.trans ex⟩, ⟨u, d, e, f.trans ey⟩⟩

/-- No bounds: no truth has it. -/
theorem span_none {ps : List Pt} {r : Rl} (F : Sane ps r) (hg : goodsB ps 0 = true) (kd : Int) (hk : kd = 0 ∨ kd = 1 ∨ kd = 2 ∨ kd = 3) (hb : spanP ps r kd = none) {t : List Int} (h : IsTr ps t) : isOf kd (readR ps r t) = false := by
  cases hi : isOf kd (readR ps r t) with
  | false => rfl
  | true =>
    obtain ⟨lo, hi', hb', _⟩ := span_all F hg kd hk h hi
    rw [hb] at hb'
    cases hb'
end Go.Proofs.Ytfjlnejeffkdoaa

/- What follows of the spans: over all truths they are the same, better readings make none wider, and each point that may be is brought: plain numbers. No condition but those of a valid curve. -/
namespace Go.Proofs.Ytfjlnejeffkdoaa
open Go.RowKit

/-- Of any list that holds just the truths the bounds are the same. -/
theorem span_eq {ps : List Pt} {r : Rl} (F : Sane ps r) (hg : goodsB ps 0 = true) (kd : Int) (hk : kd = 0 ∨ kd = 1 ∨ kd = 2 ∨ kd = 3) {all : List (List Int)} (h1 : ∀ t ∈ all, IsTr ps t) (h2 : ∀ t, IsTr ps t → t ∈ all) :
    bnd (numsL ps r (fndOf kd) all) = spanP ps r kd := by
  have hin : ∀ {t : List Int}, IsTr ps t → isOf kd (readR ps r t) = true → fndOf kd (readR ps r t) ∈ numsL ps r (fndOf kd) all := fun {t} ht hi => nums_in (h2 t ht) ((is_fnd F ht kd).2 hi)
  have hout : ∀ z, z ∈ numsL ps r (fndOf kd) all → ∃ t, IsTr ps t ∧ isOf kd (readR ps r t) = true ∧ numOf kd (readR ps r t) = z.2 := fun z hz => by
    obtain ⟨t, ht, hne, e⟩ := nums_mem hz
    exact ⟨t, h1 t ht, (is_fnd F (h1 t ht) kd).1 hne, (num_fnd kd _).symm.trans e⟩
  cases ha : bnd (numsL ps r (fndOf kd) all) with
  | none =>
    have hnil := (bnd_mem _ _ rfl).1 ha
    cases hb : spanP ps r kd with
    | none => rfl
    | some x =>
      obtain ⟨⟨t, a, b, c⟩, _⟩ := span_ends F kd (lo := x.1) (hi := x.2) hb
      have := hin a b
      rw [hnil] at this
      cases this
  | some x =>
    obtain ⟨lo, hi⟩ := x
    obtain ⟨⟨x, hx, ex⟩, ⟨y, hy, ey⟩, hall⟩ := (bnd_mem _ _ rfl).2 lo hi ha
    obtain ⟨t, ta, tb, tc⟩ := hout x hx
    obtain ⟨u, ua, ub, uc⟩ := hout y hy
    obtain ⟨lo', hi', hb, l1, l2⟩ := span_all F hg kd hk ta tb
    obtain ⟨lo2, hi2, hb2, g1, g2⟩ := span_all F hg kd hk ua ub
    rw [hb] at hb2
    cases hb2
    obtain ⟨⟨t', a1, a2, a3⟩, ⟨u', b1, b2, b3⟩⟩ := span_ends F kd hb
    have c1 := (hall _ (hin a1 a2)).1
    have c2 := (hall _ (hin b1 b2)).2
    rw [num_fnd] at c1 c2
    rw [hb]
    have e1 : lo = lo' := by omega
    have e2 : hi = hi' := by omega
    rw [e1, e2]

theorem readR_congr {ps qs : List Pt} (r : Rl) (t : List Int) (hl : qs.length = ps.length) (hs : ∀ i, (pt qs i).s = (pt ps i).s) : readR qs r t = readR ps r t := by
  have e1 : lineI qs r = lineI ps r := funext fun i => by unfold lineI; rw [hs]
  have e2 : meetB qs r t = meetB ps r t := funext fun i => by unfold meetB; rw [e1]
  have e3 : ∀ i, plI qs r t i = plI ps r t i := fun i => by
    cases i with
    | zero => rfl
    | succ i => simp only [plI, e1]
  have e4 : ∀ k, wkTo qs t k = wkTo ps t k := fun k => by
    induction k with
    | zero => rfl
    | succ k ih => simp only [wkTo, ih, hs]
  unfold readR
  rw [hl, e2, e3, e4]

/-- Is one curve the other one with narrower ranges? -/
structure Narrow (qs ps : List Pt) : Prop where
  len : qs.length = ps.length
  st : ∀ i, (pt qs i).s = (pt ps i).s
  lo : ∀ i, i < ps.length → (pt ps i).lo ≤ (pt qs i).lo ∧ (pt qs i).hi ≤ (pt ps i).hi
theorem Narrow.tr {qs ps : List Pt} (h : Narrow qs ps) {t : List Int} (ht : IsTr qs t) : IsTr ps t := by
  obtain ⟨a, b, c⟩ := ht
  rw [h.len] at b c
  exact ⟨a, fun i hi => by have := h.lo i hi; have := b i hi; omega, c⟩

/-- With narrower ranges no span is wider. -/
theorem better_span {qs ps : List Pt} {r : Rl} (F : Sane ps r) (G : Sane qs r) (hg : goodsB ps 0 = true) (hn : Narrow qs ps) (kd : Int) (hk : kd = 0 ∨ kd = 1 ∨ kd = 2 ∨ kd = 3) {lo hi : Int} (hb : spanP qs r kd = some (lo, hi)) :
    ∃ lo' hi', spanP ps r kd = some (lo', hi') ∧ lo' ≤ lo ∧ hi ≤ hi' := by
  obtain ⟨⟨t, a1, a2, a3⟩, ⟨u, b1, b2, b3⟩⟩ := span_ends G kd hb
  rw [readR_congr r _ hn.len hn.st] at a2 a3 b2 b3
  obtain ⟨lo', hi', h1, h2, h3⟩ := span_all F hg kd hk (hn.tr a1) a2
  obtain ⟨lo2, hi2, g1, g2, g3⟩ := span_all F hg kd hk (hn.tr b1) b2
  rw [h1] at g1
  cases g1
  exact ⟨lo', hi', h1, by omega, by omega⟩

/-- The points of the three kinds. -/
def atOf (kd : Int) (x : Rs) : Int := if kd = 0 then x.pk else if kd = 1 then x.ya else x.ma
/-- Each point that is the peak, the yield point or the meeting point in some truth is so in one that is brought. -/
theorem may_all {ps : List Pt} {r : Rl} (F : Sane ps r) (hg : goodsB ps 0 = true) (kd : Int) (hk : kd = 0 ∨ kd = 1 ∨ kd = 2) {t : List Int} (h : IsTr ps t) (ha : atOf kd (readR ps r t) ≠ -1) : ∃ u ∈ tsOf ps r kd, atOf kd (readR ps r u) = atOf kd (readR ps r t) := by
  rcases hk with rfl | rfl | rfl
  · exact peak_raised F h
  · obtain ⟨⟨u, hu, e, _⟩, _⟩ := yields_both F h ha
    exact ⟨u, hu, e⟩
  · obtain ⟨⟨u, hu, e, _⟩, _⟩ := proofs_both F (goods_st hg) h ha
    exact ⟨u, hu, e⟩
/-- With narrower ranges no more points may be. -/
theorem better_may {qs ps : List Pt} {r : Rl} (F : Sane ps r) (G : Sane qs r) (hg : goodsB ps 0 = true) (hn : Narrow qs ps) (kd : Int) (hk : kd = 0 ∨ kd = 1 ∨ kd = 2) {t : List Int} (h : t ∈ tsOf qs r kd) (ha : atOf kd (readR qs r t) ≠ -1) : ∃ u ∈ tsOf ps r kd, atOf kd (readR ps r u) = atOf kd (readR qs r t) := by
  rw [readR_congr r _ hn.len hn.st] at ha ⊢
  exact may_all F hg kd hk (hn.tr (ts_tr G kd t h)) ha
end Go.Proofs.Ytfjlnejeffkdoaa
