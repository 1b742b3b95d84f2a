/- Comparisons, grades that fit them, and the distances that follow: plain facts. No condition. What the program answers, as functions of the distances; what the chapter shows. No condition. -/
namespace Go.Proofs.Ytplmlmmjfkbabaa

/-- A comparison: Left, Right (or -1), Least, Most. -/
structure Cm where
  l : Int
  r : Int
  lo : Int
  hi : Int
deriving DecidableEq

abbrev Dm := Nat → Nat → Int
def wideD : Dm := fun a b => if a = b ∨ b = 0 then 0 else 100
def cutD (d : Dm) (f t : Nat) (w : Int) : Dm := fun a b => min (d a b) (d a f + w + d t b)
def pl (p : Int) : Nat := (p + 1).toNat
def stepD (d : Dm) (c : Cm) : Dm := cutD (cutD d (pl c.r) (pl c.l) c.hi) (pl c.l) (pl c.r) (-c.lo)
def possD (d : Dm) : Bool := (List.range 9).all fun a => decide (0 ≤ d a a)
def layD : List Cm → Dm → Option Dm
  | [], d => some d
  | c :: cs, d => if possD (stepD d c) = true then layD cs (stepD d c) else none

structure CmOk (n : Int) (c : Cm) : Prop where
  l0 : 0 ≤ c.l
  ln : c.l < n
  r0 : -1 ≤ c.r
  rn : c.r < n
  ne : c.l ≠ c.r
  lo : -100 ≤ c.lo
  le : c.lo ≤ c.hi
  hi : c.hi ≤ 100
structure AlbOk (n : Int) (cs : List Cm) : Prop where
  n0 : 0 ≤ n
  n8 : n ≤ 8
  len : cs.length ≤ 12
  cm : ∀ c, c ∈ cs → CmOk n c
structure Fits (cs : List Cm) (g : Nat → Int) : Prop where
  chart : g 0 = 0
  all : ∀ a, a < 9 → 0 ≤ g a ∧ g a ≤ 100
  says : ∀ c, c ∈ cs → c.lo ≤ g (pl c.l) - g (pl c.r) ∧ g (pl c.l) - g (pl c.r) ≤ c.hi
structure Canon (cs : List Cm) (d : Dm) : Prop where
  tri : ∀ a b c, a < 9 → b < 9 → c < 9 → d a c ≤ d a b + d b c
  diag : ∀ a, a < 9 → d a a = 0
  wide : ∀ a b, a < 9 → b < 9 → d a b ≤ wideD a b
  says : ∀ c, c ∈ cs → d (pl c.r) (pl c.l) ≤ c.hi ∧ d (pl c.l) (pl c.r) ≤ -c.lo
  sound : ∀ g, Fits cs g → ∀ a b, a < 9 → b < 9 → g b - g a ≤ d a b

theorem wide_le (a b : Nat) : 0 ≤ wideD a b ∧ wideD a b ≤ 100 := by unfold wideD; split <;> decide
theorem possD_iff {d : Dm} : possD d = true ↔ ∀ a, a < 9 → 0 ≤ d a a := by simp [possD]
theorem possD_no {d : Dm} (h : possD d = false) : ∃ a, a < 9 ∧ d a a < 0 := by
  refine Classical.byContradiction fun hn => ?_
  have : possD d = true := possD_iff.2 fun a ha => by
    refine Classical.byContradiction fun h2 => hn ⟨a, ha, by omega⟩
  rw [h] at this
  cases this
theorem CmOk.pl {n : Int} {c : Cm} (h : CmOk n c) (hn : n ≤ 8) : pl c.l < 9 ∧ pl c.r < 9 ∧ pl c.l ≠ pl c.r ∧ 0 < pl c.l := by
  have := h.l0; have := h.ln; have := h.r0; have := h.rn; have := h.ne
  unfold Go.Proofs.Ytplmlmmjfkbabaa.pl
  omega

theorem canon_nil : Canon [] wideD where
  tri a b c _ _ _ := by unfold wideD; (repeat' split) <;> simp_all
  diag a _ := by simp [wideD]
  wide a b _ _ := Int.le_refl _
  says c hc := by simp at hc
  sound g hg a b ha hb := by
    have h1 := hg.all a ha
    have h2 := hg.all b hb
    have h0 := hg.chart
    unfold wideD
    split
    · rename_i h
      rcases h with rfl | rfl <;> omega
    · omega

theorem cut_le (d : Dm) (f t : Nat) (w : Int) (a b : Nat) : cutD d f t w a b ≤ d a b ∧ cutD d f t w a b ≤ d a f + w + d t b ∧ (cutD d f t w a b = d a b ∨ cutD d f t w a b = d a f + w + d t b) := by
  unfold cutD
  omega
/-- What a cut keeps: the triangle and the diagonal, if no place is below itself. -/
theorem cut_tri {d : Dm} {f t : Nat} {w : Int} (hf : f < 9) (ht : t < 9) (tri : ∀ a b c, a < 9 → b < 9 → c < 9 → d a c ≤ d a b + d b c) (diag : ∀ a, a < 9 → d a a = 0) (hp : ∀ a, a < 9 → 0 ≤ cutD d f t w a a) :
    (∀ a b c, a < 9 → b < 9 → c < 9 → cutD d f t w a c ≤ cutD d f t w a b + cutD d f t w b c) ∧ (∀ a, a < 9 → cutD d f t w a a = 0) ∧ cutD d f t w f t ≤ w := by
  refine ⟨fun a b c ha hb hc => ?_, fun a ha => ?_, ?_⟩
  · obtain ⟨e1, e2, -⟩ := cut_le d f t w a c
    obtain ⟨-, -, e3⟩ := cut_le d f t w a b
    obtain ⟨-, -, e4⟩ := cut_le d f t w b c
    have t1 := tri a b c ha hb hc
    have t2 := tri a b f ha hb hf
    have t3 := tri t b c ht hb hc
    have t4 := tri t b f ht hb hf
    have p := hp f hf
    obtain ⟨-, p2, -⟩ := cut_le d f t w f f
    have df := diag f hf
    rcases e3 with e3 | e3 <;> rcases e4 with e4 | e4 <;> omega
  · have := hp a ha
    have := (cut_le d f t w a a).1
    have := diag a ha
    omega
  · have := (cut_le d f t w f t).2.1
    have := diag f hf
    have := diag t ht
    omega

theorem step_le (d : Dm) (c : Cm) (a b : Nat) : stepD d c a b ≤ cutD d (pl c.r) (pl c.l) c.hi a b ∧ stepD d c a b ≤ d a b := by
  have h1 := (cut_le (cutD d (pl c.r) (pl c.l) c.hi) (pl c.l) (pl c.r) (-c.lo) a b).1
  have h2 := (cut_le d (pl c.r) (pl c.l) c.hi a b).1
  exact ⟨h1, Int.le_trans h1 h2⟩
theorem Fits.left {cs : List Cm} {c : Cm} {g : Nat → Int} (h : Fits (cs ++ [c]) g) : Fits cs g := ⟨h.chart, h.all, fun x hx => h.says x (by simp [hx])⟩

theorem step_sound {cs : List Cm} {d : Dm} {c : Cm} {n : Int} (h : Canon cs d) (hc : CmOk n c) (hn : n ≤ 8) (g : Nat → Int) (hg : Fits (cs ++ [c]) g) : ∀ a b, a < 9 → b < 9 → g b - g a ≤ stepD d c a b := by
  obtain ⟨h1, h2, h3, h4⟩ := hc.pl hn
  have s := h.sound g hg.left
  have hs := hg.says c (by simp)
  have k : ∀ a b, a < 9 → b < 9 → g b - g a ≤ cutD d (pl c.r) (pl c.l) c.hi a b := fun a b ha hb => by
    have s1 := s a b ha hb
    have s2 := s a _ ha h2
    have s3 := s _ b h1 hb
    rcases (cut_le d (pl c.r) (pl c.l) c.hi a b).2.2 with e | e <;> rw [e] <;> omega
  intro a b ha hb
  have s1 := k a b ha hb
  have s2 := k a _ ha h1
  have s3 := k _ b h2 hb
  rcases (cut_le (cutD d (pl c.r) (pl c.l) c.hi) (pl c.l) (pl c.r) (-c.lo) a b).2.2 with e | e <;> unfold stepD <;> rw [e] <;> omega
theorem canon_step {cs : List Cm} {d : Dm} {c : Cm} {n : Int} (h : Canon cs d) (hc : CmOk n c) (hn : n ≤ 8) (hp : possD (stepD d c) = true) : Canon (cs ++ [c]) (stepD d c) := by
  obtain ⟨h1, h2, h3, h4⟩ := hc.pl hn
  have hp' := possD_iff.1 hp
  have k := cut_tri h2 h1 h.tri h.diag (w := c.hi) (fun a ha => Int.le_trans (hp' a ha) (step_le d c a a).1)
  have k2 := cut_tri h1 h2 k.1 k.2.1 (w := -c.lo) hp'
  refine ⟨k2.1, k2.2.1, fun a b ha hb => Int.le_trans (step_le d c a b).2 (h.wide a b ha hb), fun x hx => ?_, step_sound h hc hn⟩
  rcases List.mem_append.1 hx with hx | hx
  · have := h.says x hx
    exact ⟨Int.le_trans (step_le d c _ _).2 this.1, Int.le_trans (step_le d c _ _).2 this.2⟩
  · obtain rfl : x = c := by simpa using hx
    exact ⟨Int.le_trans (step_le d x _ _).1 k.2.2, k2.2.2⟩
theorem step_none {cs : List Cm} {d : Dm} {c : Cm} {n : Int} (h : Canon cs d) (hc : CmOk n c) (hn : n ≤ 8) (hp : possD (stepD d c) = false) (g : Nat → Int) : ¬ Fits (cs ++ [c]) g := fun hg => by
  obtain ⟨a, ha, hneg⟩ := possD_no hp
  have := step_sound h hc hn g hg a a ha ha
  omega
theorem lay_spec {n : Int} (hn : n ≤ 8) : ∀ (cs pre : List Cm) (d : Dm), Canon pre d → (∀ c, c ∈ cs → CmOk n c) →
    (∀ d', layD cs d = some d' → Canon (pre ++ cs) d') ∧ (layD cs d = none → ∀ g, ¬ Fits (pre ++ cs) g)
  | [], pre, d, h, _ => ⟨fun d' e => by simp only [layD, Option.some.injEq] at e; subst e; simpa using h, fun e => by simp [layD] at e⟩
  | c :: cs, pre, d, h, hc => by
    have hc1 := hc c (by simp)
    cases hp : possD (stepD d c) with
    | true =>
      have ih := lay_spec hn cs (pre ++ [c]) (stepD d c) (canon_step h hc1 hn hp) (fun x hx => hc x (by simp [hx]))
      simp only [List.append_assoc, List.singleton_append] at ih
      simpa [layD, hp] using ih
    | false =>
      refine ⟨fun d' e => by simp [layD, hp] at e, fun _ g hg => step_none h hc1 hn hp g ⟨hg.chart, hg.all, fun x hx => hg.says x ?_⟩⟩
      simp only [List.mem_append, List.mem_singleton] at hx
      rcases hx with hx | rfl <;> simp [*]
def distO (cs : List Cm) : Option Dm := layD cs wideD
theorem dist_some {n : Int} {cs : List Cm} {d : Dm} (h : AlbOk n cs) (hd : distO cs = some d) : Canon cs d := by
  simpa using (lay_spec h.n8 cs [] wideD canon_nil h.cm).1 d hd
theorem dist_none {n : Int} {cs : List Cm} (h : AlbOk n cs) (hd : distO cs = none) (g : Nat → Int) : ¬ Fits cs g := by
  simpa using (lay_spec h.n8 cs [] wideD canon_nil h.cm).2 hd g
theorem Canon.bound {cs : List Cm} {d : Dm} (h : Canon cs d) {a b : Nat} (ha : a < 9) (hb : b < 9) : -100 ≤ d a b ∧ d a b ≤ 100 := by
  have h1 := h.tri a b a ha hb ha
  have h2 := h.diag a ha
  have h3 := h.wide a b ha hb
  have h4 := h.wide b a hb ha
  have h5 := wide_le a b
  have h6 := wide_le b a
  omega
/-- From each place the farthest grades fit. -/
def farD (d : Dm) (a : Nat) : Nat → Int := fun x => d a x - d a 0
theorem Canon.far {n : Int} {cs : List Cm} {d : Dm} (h : Canon cs d) (hA : AlbOk n cs) {a : Nat} (ha : a < 9) : Fits cs (farD d a) := by
  refine ⟨by simp [farD], fun x hx => ?_, fun c hc => ?_⟩
  · have h1 := h.tri a x 0 ha hx (by omega)
    have h2 := h.wide x 0 hx (by omega)
    have h3 := h.tri a 0 x ha (by omega) hx
    have h4 := h.wide 0 x (by omega) hx
    have h5 := wide_le 0 x
    have h6 : wideD x 0 = 0 := by simp [wideD]
    simp only [farD]
    omega
  · obtain ⟨h1, h2, h3, h4⟩ := (hA.cm c hc).pl hA.n8
    have s := h.says c hc
    have t1 := h.tri a (pl c.r) (pl c.l) ha h2 h1
    have t2 := h.tri a (pl c.l) (pl c.r) ha h1 h2
    simp only [farD]
    omega
theorem Canon.far_at {cs : List Cm} {d : Dm} (h : Canon cs d) {a b : Nat} (ha : a < 9) : farD d a b - farD d a a = d a b := by
  have := h.diag a ha
  simp only [farD]
  omega
theorem canon_le {n n' : Int} {cs cs' : List Cm} {d d' : Dm} (h : Canon cs d) (h' : Canon cs' d') (hA : AlbOk n' cs') (hf : ∀ g, Fits cs' g → Fits cs g) {a b : Nat} (ha : a < 9) (hb : b < 9) : d' a b ≤ d a b := by
  have h1 := h.sound _ (hf _ (h'.far hA ha)) a b ha hb
  have h2 := h'.far_at (b := b) ha
  omega
theorem dist_fit {n : Int} {cs : List Cm} (hA : AlbOk n cs) {g : Nat → Int} (hg : Fits cs g) : ∃ d, distO cs = some d := by
  cases h : distO cs with
  | none => exact absurd hg (dist_none hA h g)
  | some d => exact ⟨d, rfl⟩
theorem dist_more {n n' : Int} {cs cs' : List Cm} (hA : AlbOk n cs) (hA' : AlbOk n' cs') (hf : ∀ g, Fits cs' g → Fits cs g) {d' : Dm} (hd : distO cs' = some d') : ∃ d, distO cs = some d ∧ ∀ a b, a < 9 → b < 9 → d' a b ≤ d a b := by
  have h' := dist_some hA' hd
  obtain ⟨d, e⟩ := dist_fit hA (hf _ (h'.far hA' (a := 0) (by omega)))
  exact ⟨d, e, fun a b ha hb => canon_le (n := n) (dist_some hA e) h' hA' hf ha hb⟩
def EqD (d d' : Dm) : Prop := ∀ a b, a < 9 → b < 9 → d a b = d' a b
theorem dist_same {n n' : Int} {cs cs' : List Cm} (hA : AlbOk n cs) (hA' : AlbOk n' cs') (hf : ∀ g, Fits cs g ↔ Fits cs' g) : (distO cs = none ∧ distO cs' = none) ∨ ∃ d d', distO cs = some d ∧ distO cs' = some d' ∧ EqD d d' := by
  cases h : distO cs with
  | none =>
    cases h' : distO cs' with
    | none => exact .inl ⟨rfl, rfl⟩
    | some d' =>
      obtain ⟨d, e, -⟩ := dist_more hA hA' (fun g hg => (hf g).2 hg) h'
      rw [h] at e
      cases e
  | some d =>
    obtain ⟨d', e, hle⟩ := dist_more hA' hA (fun g hg => (hf g).1 hg) h
    obtain ⟨d2, e2, hle2⟩ := dist_more hA hA' (fun g hg => (hf g).2 hg) e
    rw [h] at e2
    obtain rfl : d = d2 := by injection e2
    exact .inr ⟨d, d', rfl, e, fun a b ha hb => Int.le_antisymm (hle a b ha hb) (hle2 a b ha hb)⟩

/-- One comparison more, that says what follows, changes nothing. -/
theorem says_same {n : Int} {cs : List Cm} {d : Dm} {p q : Int} (hA : AlbOk n cs) (hd : distO cs = some d) (hp : 0 ≤ p ∧ p < n) (hq : 0 ≤ q ∧ q < n) : ∀ g, Fits cs g ↔ Fits (cs ++ [⟨p, q, -d (pl p) (pl q), d (pl q) (pl p)⟩]) g := fun g => by
  refine ⟨fun hg => ⟨hg.chart, hg.all, fun c hc => ?_⟩, Fits.left⟩
  rcases List.mem_append.1 hc with hc | hc
  · exact hg.says c hc
  · have h := dist_some hA hd
    have := hA.n8
    obtain rfl : c = ⟨p, q, -d (pl p) (pl q), d (pl q) (pl p)⟩ := by simpa using hc
    have h1 := h.sound g hg (pl p) (pl q) (by unfold pl; omega) (by unfold pl; omega)
    have h2 := h.sound g hg (pl q) (pl p) (by unfold pl; omega) (by unfold pl; omega)
    simp only
    omega

/-- Upside down. -/
def turnG (g : Nat → Int) : Nat → Int := fun a => if a = 0 then 0 else 100 - g a
def turnC (c : Cm) : Cm := if c.r < 0 then ⟨c.l, c.r, 100 - c.hi, 100 - c.lo⟩ else ⟨c.l, c.r, 0 - c.hi, 0 - c.lo⟩
theorem turn_fits {n : Int} {cs : List Cm} (hA : AlbOk n cs) {g : Nat → Int} (hg : Fits cs g) : Fits (cs.map turnC) (turnG g) := by
  refine ⟨by simp [turnG], fun a ha => ?_, fun c hc => ?_⟩
  · have := hg.all a ha
    unfold turnG
    split <;> omega
  · obtain ⟨x, hx, rfl⟩ := List.mem_map.1 hc
    have s := hg.says x hx
    have k := hA.cm x hx
    have h0 := hg.chart
    have k1 := k.l0
    have k2 := k.r0
    unfold turnC
    split
    · have e : x.r = -1 := by omega
      have e1 : pl x.l ≠ 0 := by unfold pl; omega
      have e2 : pl x.r = 0 := by unfold pl; omega
      rw [e2] at s
      simp only [turnG, e1, e2, if_true, if_false]
      omega
    · have e1 : pl x.l ≠ 0 := by unfold pl; omega
      have e2 : pl x.r ≠ 0 := by unfold pl; omega
      simp only [turnG, e1, e2, if_false]
      omega
theorem turn_turn (cs : List Cm) : (cs.map turnC).map turnC = cs := by
  rw [List.map_map]
  refine List.map_id'' (fun c => ?_) cs
  obtain ⟨l, r, lo, hi⟩ := c
  by_cases h : r < 0
  · simp [turnC, h, Function.comp]; omega
  · simp [turnC, h, Function.comp]
theorem turn_dist {n : Int} {cs : List Cm} (hA : AlbOk n cs) (hA' : AlbOk n (cs.map turnC)) : (distO cs = none ∧ distO (cs.map turnC) = none) ∨ ∃ d d', distO cs = some d ∧ distO (cs.map turnC) = some d' ∧ ∀ a, 0 < a → a < 9 → -d' a 0 = 100 - d 0 a ∧ d' 0 a = 100 - -d a 0 := by
  have back : ∀ g, Fits (cs.map turnC) g → Fits cs (turnG g) := fun g hg => by
    have := turn_fits hA' hg
    rwa [turn_turn] at this
  have half : ∀ {n n' : Int} {cs cs' : List Cm} {d d' : Dm}, Canon cs d → Canon cs' d' → AlbOk n cs → (∀ g, Fits cs g → Fits cs' (turnG g)) → ∀ a, 0 < a → a < 9 → d 0 a ≤ 100 + d' a 0 ∧ d a 0 + 100 ≤ d' 0 a := fun {n n' cs cs' d d'} h h' hA hf a h0 ha => by
    have s1 := h'.sound _ (hf _ (h.far hA (a := 0) (by omega))) a 0 ha (by omega)
    have s2 := h'.sound _ (hf _ (h.far hA (a := a) ha)) 0 a (by omega) ha
    have k1 := h.diag 0 (by omega)
    have k2 := h.diag a ha
    have e : a ≠ 0 := by omega
    simp only [turnG, farD, e, if_true, if_false] at s1 s2
    omega
  cases h : distO cs with
  | none =>
    cases h' : distO (cs.map turnC) with
    | none => exact .inl ⟨rfl, rfl⟩
    | some d' =>
      obtain ⟨d, e⟩ := dist_fit hA (back _ ((dist_some hA' h').far hA' (a := 0) (by omega)))
      rw [h] at e
      cases e
  | some d =>
    obtain ⟨d', e⟩ := dist_fit hA' (turn_fits hA ((dist_some hA h).far hA (a := 0) (by omega)))
    refine .inr ⟨d, d', rfl, e, fun a h0 ha => ?_⟩
    have s1 := half (n := n) (n' := n) (dist_some hA h) (dist_some hA' e) hA (fun g hg => turn_fits hA hg) a h0 ha
    have s2 := half (n := n) (n' := n) (dist_some hA' e) (dist_some hA h) hA' back a h0 ha
    omega

/-- Left and Right exchanged. -/
def flipC (c : Cm) : Cm := ⟨c.r, c.l, -c.hi, -c.lo⟩
theorem flip_fits {cs cs' : List Cm} (h : ∀ c, c ∈ cs' → ∃ x, x ∈ cs ∧ (c = x ∨ c = flipC x)) (g : Nat → Int) (hg : Fits cs g) : Fits cs' g :=
  ⟨hg.chart, hg.all, fun c hc => by
    obtain ⟨x, hx, e⟩ := h c hc
    have s := hg.says x hx
    rcases e with rfl | rfl
    · exact s
    · simp only [flipC]; omega⟩
theorem flip_same {cs cs' : List Cm} (h : ∀ c, c ∈ cs' → ∃ x, x ∈ cs ∧ (c = x ∨ c = flipC x)) (h' : ∀ c, c ∈ cs → ∃ x, x ∈ cs' ∧ (c = x ∨ c = flipC x)) (g : Nat → Int) : Fits cs g ↔ Fits cs' g := ⟨flip_fits h g, flip_fits h' g⟩

end Go.Proofs.Ytplmlmmjfkbabaa
namespace Go.Proofs.Ytplmlmmjfkbabaa

structure Rg where
  lo : Int
  hi : Int
deriving DecidableEq
def diffD (d : Dm) (p q : Nat) : Rg := ⟨-d p q, d q p⟩
def gradesL (d : Dm) (n : Nat) : List Rg := (List.range n).map fun p => diffD d (p + 1) 0
def finB (d : Dm) (n p : Nat) : Bool := (List.range n).all fun q => decide (0 ≤ d (q + 1) (p + 1))
def finestL (d : Dm) (n : Nat) : List Nat := (List.range n).filter (finB d n)
def cmB (n : Int) (c : Cm) : Bool := decide (0 ≤ c.l ∧ c.l < n) && (decide (c.r = -1) || decide (0 ≤ c.r ∧ c.r < n)) && decide (c.l ≠ c.r) && decide (-100 ≤ c.lo ∧ c.lo ≤ 100) && decide (-100 ≤ c.hi ∧ c.hi ≤ 100) && decide (c.lo ≤ c.hi)
def faultA (n : Int) (cs : List Cm) : Int := if 12 < cs.length then 3 else if n < 0 ∨ 8 < n ∨ cs.all (cmB n) = false then 1 else 0
theorem cmB_iff {n : Int} {c : Cm} : cmB n c = true ↔ CmOk n c := by
  simp only [cmB, Bool.and_eq_true, Bool.or_eq_true, decide_eq_true_eq]
  constructor
  · rintro ⟨⟨⟨⟨⟨⟨h1, h2⟩, h3⟩, h4⟩, h5, h6⟩, h7, h8⟩, h9⟩
    exact ⟨h1, h2, by omega, by omega, h4, h5, h9, h8⟩
  · rintro ⟨h1, h2, h3, h4, h5, h6, h7, h8⟩
    exact ⟨⟨⟨⟨⟨⟨h1, h2⟩, by omega⟩, h5⟩, by omega, by omega⟩, by omega, by omega⟩, h7⟩
theorem fault_ok {n : Int} {cs : List Cm} (h : faultA n cs = 0) : AlbOk n cs := by
  unfold faultA at h
  by_cases h1 : 12 < cs.length
  · rw [if_pos h1] at h; simp at h
  · rw [if_neg h1] at h
    by_cases h2 : n < 0 ∨ 8 < n ∨ cs.all (cmB n) = false
    · rw [if_pos h2] at h; simp at h
    · simp only [not_or, Bool.not_eq_false, List.all_eq_true] at h2
      exact ⟨by omega, by omega, by omega, fun c hc => cmB_iff.1 (h2.2.2 c hc)⟩
theorem fault_of {n : Int} {cs : List Cm} (h : AlbOk n cs) : faultA n cs = 0 := by
  have h1 := h.n0; have h2 := h.n8; have h3 := h.len
  have h4 : cs.all (cmB n) = true := List.all_eq_true.2 fun c hc => cmB_iff.2 (h.cm c hc)
  unfold faultA
  rw [if_neg (by omega), if_neg (by rw [h4]; simp; omega)]
theorem fault_cases (n : Int) (cs : List Cm) : faultA n cs = 0 ∨ faultA n cs = 1 ∨ faultA n cs = 3 := by
  unfold faultA
  by_cases h1 : 12 < cs.length
  · rw [if_pos h1]; simp
  · rw [if_neg h1]
    by_cases h2 : n < 0 ∨ 8 < n ∨ cs.all (cmB n) = false
    · rw [if_pos h2]; simp
    · rw [if_neg h2]; simp

theorem mem_finest {d : Dm} {n p : Nat} : p ∈ finestL d n ↔ p < n ∧ ∀ q, q < n → 0 ≤ d (q + 1) (p + 1) := by
  simp [finestL, finB]
theorem filter_len {α : Type} (f g : α → Bool) : ∀ (l : List α), (∀ x, x ∈ l → f x = true → g x = true) → (l.filter f).length ≤ (l.filter g).length
  | [], _ => by simp
  | x :: l, h => by
    have ih := filter_len f g l fun y hy => h y (by simp [hy])
    have hx := h x (by simp)
    cases hf : f x with
    | false => cases hg : g x <;> simp [List.filter_cons, hf, hg] <;> omega
    | true => simp [List.filter_cons, hf, hx hf]; omega
theorem finest_less {d d' : Dm} {n : Nat} (hn : n ≤ 8) (h : ∀ a b, a < 9 → b < 9 → d' a b ≤ d a b) : (finestL d' n).length ≤ (finestL d n).length := by
  refine filter_len _ _ _ fun p hp hf => ?_
  have hp' : p < n := by simpa using hp
  simp only [finB, List.all_eq_true, List.mem_range, decide_eq_true_eq] at hf ⊢
  intro q hq
  have := hf q hq
  have := h (q + 1) (p + 1) (by omega) (by omega)
  omega
theorem grades_same {d d' : Dm} {n : Nat} (hn : n ≤ 8) (h : EqD d d') : gradesL d n = gradesL d' n := by
  refine List.map_congr_left fun p hp => ?_
  have hp' : p < n := by simpa using hp
  simp only [diffD]
  rw [h (p + 1) 0 (by omega) (by omega), h 0 (p + 1) (by omega) (by omega)]
def rg (l : List Rg) (i : Nat) : Rg := (l[i]?).getD ⟨0, 0⟩
theorem grades_at {d : Dm} {n p : Nat} (h : p < n) : rg (gradesL d n) p = ⟨-d (p + 1) 0, d 0 (p + 1)⟩ := by
  simp [rg, gradesL, diffD, h]
theorem grades_len (d : Dm) (n : Nat) : (gradesL d n).length = n := by simp [gradesL]

/-- The album of the chapter. -/
def shownL : List Cm := [⟨0, -1, 40, 45⟩, ⟨1, 0, 3, 5⟩, ⟨2, 1, -2, 4⟩, ⟨2, -1, 0, 44⟩]
theorem shown_ok : AlbOk 3 shownL := fault_ok (by decide)
theorem shown_some : (distO shownL).isSome = true := by decide +kernel
def shownD : Dm := (distO shownL).getD wideD
theorem shown_d : distO shownL = some shownD := by
  have h := shown_some
  unfold shownD
  cases e : distO shownL with
  | none => rw [e] at h; cases h
  | some d => rfl
theorem shown_grades : gradesL shownD 3 = [⟨40, 43⟩, ⟨43, 46⟩, ⟨41, 44⟩] := by decide +kernel
theorem shown_between : diffD shownD 3 1 = ⟨1, 4⟩ := by decide +kernel
theorem shown_finest : finestL shownD 3 = [1, 2] := by decide +kernel
end Go.Proofs.Ytplmlmmjfkbabaa
