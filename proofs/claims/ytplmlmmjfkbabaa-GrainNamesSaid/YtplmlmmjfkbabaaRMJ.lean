/- The difference of two pictures by the reference: all grades of the second one are tried. Plain facts. No condition. The difference of two pictures of an album by the reference. No condition. -/
import Derived.Test.YtplmlmmjfkbabaaRI
import Derived.BigRegion
import Derived.BigQuiet
import Derived.StillTail
import Derived.StillTailTactics
namespace Go.Proofs.Ytplmlmmjfkbabaa

def startB (d : Dm) (N q : Nat) (m : Int) : List Rg := (gradesL d N).set q ⟨m, m⟩
theorem startB_len (d : Dm) (N q : Nat) (m : Int) : (startB d N q m).length = N := by simp [startB, grades_len]
theorem startB_rg {d : Dm} {N q p : Nat} {m : Int} (hq : q < N) (hp : p < N) : rg (startB d N q m) p = if p = q then ⟨m, m⟩ else ⟨-d (p + 1) 0, d 0 (p + 1)⟩ := by
  unfold startB
  rw [rg_set (by rw [grades_len]; exact hq), grades_at hp]
theorem startB_in {cs : List Cm} {d : Dm} {N q : Nat} {m : Int} (hA : AlbOk N cs) (hC : Canon cs d) (hq : q < N) (h1 : -d (q + 1) 0 ≤ m) (h2 : m ≤ d 0 (q + 1)) : ∀ p, p < N → 0 ≤ (rg (startB d N q m) p).lo ∧ (rg (startB d N q m) p).hi ≤ 100 := by
  intro p hp
  have h8 := hA.n8
  have f1 := (canon_lo hC hA.w).all (p + 1) (by omega)
  have f2 := (canon_hi hC hA.w).all (p + 1) (by omega)
  have f3 := (canon_lo hC hA.w).all (q + 1) (by omega)
  have f4 := (canon_hi hC hA.w).all (q + 1) (by omega)
  rw [startB_rg hq hp]
  split
  · simp only; omega
  · simp only; omega
theorem Fits.ofR {cs : List Cm} {n : Nat} {R : List Rg} {g : Nat → Int} (hn : n ≤ 8) (hR : ∀ p, p < n → 0 ≤ (rg R p).lo ∧ (rg R p).hi ≤ 100) (h : FitR cs n R g) (h0 : ∀ a, n < a → g a = 0) : Fits cs g :=
  Fits.of (n := n) ⟨h.chart, fun p hp => by have := h.all p hp; have := hR p hp; rw [free_rg hp]; simp only; omega, h.says⟩ h0
theorem FitR.ofB {cs : List Cm} {d : Dm} {N q : Nat} {g : Nat → Int} (hA : AlbOk N cs) (hC : Canon cs d) (hq : q < N) (hg : Fits cs g) : FitR cs N (startB d N q (g (q + 1))) g := by
  have h8 := hA.n8
  refine ⟨hg.chart, fun p hp => ?_, hg.says⟩
  rw [startB_rg hq hp]
  split
  · rename_i e
    rw [e]
    simp only; omega
  · have h1 := hC.sound g hg (p + 1) 0 (by omega) (by omega)
    have h2 := hC.sound g hg 0 (p + 1) (by omega) (by omega)
    rw [hg.chart] at h1 h2
    simp only; omega
/-- What the loop over the grades of the second picture keeps. -/
structure BetI (d : Dm) (p q : Nat) (m lo hi : Int) : Prop where
  lo1 : -d (p + 1) (q + 1) ≤ lo
  lo2 : lo ≤ 200
  hi1 : hi ≤ d (q + 1) (p + 1)
  hi2 : -200 ≤ hi
  gl : farD d (p + 1) (q + 1) < m → lo = -d (p + 1) (q + 1)
  gh : farD d (q + 1) (q + 1) < m → hi = d (q + 1) (p + 1)
theorem far_in {cs : List Cm} {d : Dm} {N a q : Nat} (hA : AlbOk N cs) (hC : Canon cs d) (ha : a < 9) (hq : q < N) : -d (q + 1) 0 ≤ farD d a (q + 1) ∧ farD d a (q + 1) ≤ d 0 (q + 1) := by
  have h8 := hA.n8
  have hg := hC.far hA ha
  have h1 := hC.sound _ hg (q + 1) 0 (by omega) (by omega)
  have h2 := hC.sound _ hg 0 (q + 1) (by omega) (by omega)
  rw [hg.chart] at h1 h2
  omega
theorem BetI.start {cs : List Cm} {d : Dm} {N p q : Nat} (hA : AlbOk N cs) (hC : Canon cs d) (hp : p < N) (hq : q < N) : BetI d p q (-d (q + 1) 0) 200 (-200) := by
  have h8 := hA.n8
  have b1 := hC.bound (a := p + 1) (b := q + 1) (by omega) (by omega)
  have b2 := hC.bound (a := q + 1) (b := p + 1) (by omega) (by omega)
  have f1 := far_in (a := p + 1) hA hC (by omega) hq
  have f2 := far_in (a := q + 1) hA hC (by omega) hq
  exact ⟨by omega, by omega, by omega, by omega, fun h => by omega, fun h => by omega⟩
theorem BetI.done {cs : List Cm} {d : Dm} {N p q : Nat} {m lo hi : Int} (hA : AlbOk N cs) (hC : Canon cs d) (hp : p < N) (hq : q < N) (h : BetI d p q m lo hi) (hm : d 0 (q + 1) < m) : lo = -d (p + 1) (q + 1) ∧ hi = d (q + 1) (p + 1) := by
  have h8 := hA.n8
  have f1 := far_in (a := p + 1) hA hC (by omega) hq
  have f2 := far_in (a := q + 1) hA hC (by omega) hq
  exact ⟨h.gl (by omega), h.gh (by omega)⟩
theorem BetI.no {cs : List Cm} {d : Dm} {N p q : Nat} {m lo hi : Int} (hA : AlbOk N cs) (hC : Canon cs d) (hp : p < N) (hq : q < N) (h : BetI d p q m lo hi) {xs : List Rg} {k : Nat} (hn : Nar cs N (startB d N q m) xs) (hk : k < N) (he : (rg xs k).hi < (rg xs k).lo) : BetI d p q (m + 1) lo hi := by
  have h8 := hA.n8
  have ne : ∀ a, a < 9 → farD d a (q + 1) ≠ m := fun a ha e => by
    have hf := FitR.ofB hA hC hq (hC.far hA ha)
    rw [e] at hf
    have := hn.sound _ hf k hk
    omega
  have n1 := ne (p + 1) (by omega)
  have n2 := ne (q + 1) (by omega)
  exact ⟨h.lo1, h.lo2, h.hi1, h.hi2, fun h1 => h.gl (by omega), fun h1 => h.gh (by omega)⟩
theorem BetI.yes {cs : List Cm} {d : Dm} {N p q : Nat} {m lo hi : Int} (hA : AlbOk N cs) (hC : Canon cs d) (hp : p < N) (hq : q < N) (h1 : -d (q + 1) 0 ≤ m) (h2 : m ≤ d 0 (q + 1)) (h : BetI d p q m lo hi) {xs : List Rg} (hn : Nar cs N (startB d N q m) xs)
    (hs : ∀ c, c ∈ cs → sameR xs c = true) (hne : ∀ k, k < N → (rg xs k).lo ≤ (rg xs k).hi) : BetI d p q (m + 1) (min lo ((rg xs p).lo - m)) (max hi ((rg xs p).hi - m)) := by
  have h8 := hA.n8
  have hin : ∀ c, c ∈ cs → InR N c := fun c hc => InR.of (hA.cm c hc)
  have hR := startB_in hA hC hq h1 h2
  have f1 := Fits.ofR (by omega) hR (fix_lo hn hin hs hne) fun _ ha => loG_out ha
  have f2 := Fits.ofR (by omega) hR (fix_hi hn hin hs hne) fun _ ha => hiG_out ha
  have s1 := hC.sound _ f1 (p + 1) (q + 1) (by omega) (by omega)
  have s2 := hC.sound _ f2 (q + 1) (p + 1) (by omega) (by omega)
  rw [loG_at hp, loG_at hq] at s1
  rw [hiG_at hp, hiG_at hq] at s2
  have e0 := hn.sub q hq
  rw [startB_rg hq hq, if_pos rfl] at e0
  have e1 := hne q hq
  simp only at e0
  have b1 := h.lo1
  have b2 := h.lo2
  have b3 := h.hi1
  have b4 := h.hi2
  have p1 := hR p hp
  have p2 := hn.sub p hp
  have p3 := hne p hp
  refine ⟨by omega, by omega, by omega, by omega, fun hm => ?_, fun hm => ?_⟩
  · by_cases e : farD d (p + 1) (q + 1) = m
    · have hf := FitR.ofB hA hC hq (hC.far hA (a := p + 1) (by omega))
      rw [e] at hf
      have := (hn.sound _ hf p hp).1
      have := hC.far_at (a := p + 1) (b := q + 1) (by omega)
      omega
    · have := h.gl (by omega)
      omega
  · by_cases e : farD d (q + 1) (q + 1) = m
    · have hf := FitR.ofB hA hC hq (hC.far hA (a := q + 1) (by omega))
      rw [e] at hf
      have := (hn.sound _ hf p hp).2
      have := hC.far_at (a := q + 1) (b := p + 1) (by omega)
      omega
    · have := h.gh (by omega)
      omega
end Go.Proofs.Ytplmlmmjfkbabaa
namespace Go.Proofs.Ytplmlmmjfkbabaa
open Go.RowKit Go.Shelf
attribute [local irreducible] arrV wpQuiet mat shl

theorem set_pair {w : World} {b : Nat} {u v x y : Value} {t : TypeId} (h : w.heap[b]? = some (.cells #[u, v] t (0, 0))) : (w.setCells b 0 [x, y]).heap[b]? = some (.cells #[x, y] t (0, 0)) := by
  have := set_list b t [x, y] [] [u, v] [] w rfl (by simpa using h)
  simpa using this
theorem own_at {w : World} {base g cap n : Nat} {xs : List Value} (h : w.ownsRow base 43 2 (.slice (some ⟨g, 0, none⟩) n cap) n xs) (hn : 0 < n) : base ≤ g ∧ g < w.heap.size := by
  obtain ⟨g', rc, hge, hgb, hgl, -⟩ := own_getR h hn
  cases hge
  exact ⟨hgb, hgl⟩
theorem own_hi {w : World} {base g cap N q : Nat} {d : Dm} (h : w.ownsRow base 43 2 (.slice (some ⟨g, 0, none⟩) N cap) N (flatR (gradesL d N))) (hq : q < N) :
    w.cell? ⟨g, q * 2, none⟩ = some (.int .i64 (-d (q + 1) 0)) ∧ w.cell? ⟨g, q * 2 + 1, none⟩ = some (.int .i64 (d 0 (q + 1))) ∧ base ≤ g ∧ g < w.heap.size := by
  obtain ⟨g', rc, hge, hgb, hgl, hcell⟩ := own_getR h (by omega)
  cases hge
  obtain ⟨k1, k2⟩ := flatR_get (gradesL d N) q (by rw [grades_len]; exact hq)
  rw [grades_at hq] at k1 k2
  exact ⟨(hcell (q * 2) (by omega)).trans k1, (hcell (q * 2 + 1) (by omega)).trans k2, hgb, hgl⟩
set_option maxRecDepth 100000 in
set_option maxHeartbeats 8000000 in
theorem refBetween_any (N : Nat) (v : Value) (cs : List Cm) (d : Dm) (p q : Nat) (w : World) (hA : AlbOk N cs) (hd : distO cs = some d) (hp : p < N) (hq : q < N) (hV : CmsV w.heap.size w v cs) :
    Calls Try.prog 28 #[.agg #[.int .i64 N, v], .int .i64 p, .int .i64 q] w fun e w' => e = .returned (.agg #[.int .i64 (-d (p + 1) (q + 1)), .int .i64 (d (q + 1) (p + 1))]) ∧ Below w.heap.size w w' := by
  have h8 := hA.n8
  have HVS := Lib.hid fun w' (h : Below w.heap.size w w') => (hV.same (.below (Nat.le_refl _) h)).up h.size
  have HRG := Lib.hid fun w' (h : Below w.heap.size w w') => refGrades_any N v cs w' hA (HVS.out w' h)
  have HOK := Lib.hid hA
  have HD := Lib.hid hd
  have HCA := Lib.hid (dist_some hA hd)
  obtain ⟨hx1, hx2⟩ := box2 w (.cells #[.int .i64 N, v] 24) (.cells #[.int .i64 0, .int .i64 0] 43)
  have HX := Lib.hid hx1
  have HR := Lib.hid hx2
  have HBA := Lib.hid (below2 w (.cells #[.int .i64 N, v] 24) (.cells #[.int .i64 0, .int .i64 0] 43))
  have hz : ((w.alloc (.cells #[.int .i64 N, v] 24)).alloc (.cells #[.int .i64 0, .int .i64 0] 43)).heap.size = w.heap.size + 2 := by simp
  have HZ := Lib.hid hz
  clear hV hA hd hx1 hx2 hz
  go_enter Try.func28, Try.ntmps28
  go_wp2_with fail
  refine (HRG.out _ HBA.out).mono ?_
  rintro e u1 ⟨hg, hb⟩
  rw [HZ.out] at hg hb
  replace HX := Lib.hid ((hb.block _ (by omega)).trans HX.out)
  replace HR := Lib.hid ((hb.block _ (by omega)).trans HR.out)
  replace HBA := Lib.hid (below_to HBA.out (by rw [HZ.out]; exact hb))
  have HS1 := Lib.hid hb.size
  clear hb HRG HZ
  rcases hg with ⟨d', r, hd', rfl, ho⟩ | ⟨hd', rfl⟩
  rotate_left
  · rw [HD.out] at hd'
    cases hd'
  rw [HD.out] at hd'
  cases hd'
  obtain ⟨g, rc, rfl, hgb, hgl, hcell⟩ := own_getR ho (by omega)
  have HO := Lib.hid ho
  obtain ⟨k1, k2⟩ := flatR_get (gradesL d N) q (by rw [grades_len]; exact hq)
  rw [grades_at hq] at k1 k2
  simp only at k1 k2
  have p1 := (hcell (q * 2) (by omega)).trans k1
  have p2 := (hcell (q * 2 + 1) (by omega)).trans k2
  have hqn : (q : Int) < N := by omega
  have hpn : (p : Int) < N := by omega
  have HP2 := Lib.hid p2
  have HBI := Lib.hid (BetI.start HOK.out HCA.out hp hq)
  have HL0 : Hid (0 ≤ -d (q + 1) 0 ∧ d 0 (q + 1) ≤ 100 ∧ -d (q + 1) 0 ≤ d 0 (q + 1)) := Lib.hid (by
    have f1 := (canon_lo HCA.out HOK.out.w).all (q + 1) (by omega)
    have f2 := (canon_hi HCA.out HOK.out.w).all (q + 1) (by omega)
    have t := HCA.out.tri (q + 1) 0 (q + 1) (by omega) (by omega) (by omega)
    have e := HCA.out.diag (q + 1) (by omega)
    omega)
  clear hcell k1 k2 ho p2
  obtain ⟨L, hL⟩ : ∃ L, L = -d (q + 1) 0 := ⟨_, rfl⟩
  obtain ⟨H, hH⟩ : ∃ H, H = d 0 (q + 1) := ⟨_, rfl⟩
  rw [← hL] at p1 HBI
  rw [← hL, ← hH] at HL0
  rw [← hH] at HP2
  have HLE := Lib.hid hL
  have HHE := Lib.hid hH
  clear hL hH
  have hgz : g < u1.heap.size + 1 := by omega
  have lx := lt_of_block HR.out
  go_wp2_with fail
  clear p1
  have hbx := box_below u1 (.cells #[.int .i64 200, .int .i64 (-200)] 43)
  have hnx := heap_alloc_new u1 (.cells #[.int .i64 200, .int .i64 (-200)] 43)
  replace HX := Lib.hid ((hbx.block _ (lt_of_block HX.out)).trans HX.out)
  replace HR := Lib.hid ((hbx.block _ (lt_of_block HR.out)).trans HR.out)
  replace HO := Lib.hid (own_same HO.out (fun g _ hg => hbx.block g hg))
  replace HBA := Lib.hid (below_to HBA.out hbx)
  replace HP2 := Lib.hid ((hbx.cell (p := ⟨g, q * 2 + 1, none⟩) hgl).trans HP2.out)
  have HU := Lib.hid hnx
  clear hbx hnx hgz lx
  generalize World.alloc u1 _ = u2 at *
  generalize u1.heap.size = ob at *
  have HNE : Hid (w.heap.size + 2 ≤ g ∧ g < ob) := Lib.hid ⟨hgb, hgl⟩
  clear hgb hgl HS1
  go_loopw [10] (fun i wr => ∃ m lo hi : Int, L ≤ m ∧ m ≤ H + 1 ∧ i = .int .i64 m ∧ Hid (BetI d p q m lo hi) ∧ Hid (wr.heap[w.heap.size]? = some (.cells #[.int .i64 N, v] 24 (0, 0))) ∧ Hid (wr.heap[w.heap.size + 1]? = some (.cells #[.int .i64 0, .int .i64 0] 43 (0, 0))) ∧ Hid (wr.heap[ob]? = some (.cells #[.int .i64 lo, .int .i64 hi] 43 (0, 0))) ∧ Hid (wr.ownsRow (w.heap.size + 2) 43 2 (.slice (some ⟨g, 0, none⟩) N rc) N (flatR (gradesL d N))) ∧ Hid (Below w.heap.size w wr)) (fun i _ => (H + 1 - intOf i).toNat)
  case atStart => exact ⟨L, 200, -200, Int.le_refl _, by have := HL0.out; omega, rfl, HBI, HX, HR, HU, HO, HBA⟩
  case round =>
    clear HX HR HU HO HBA HBI HP2
    obtain ⟨m, lo, hi, hm1, hm2, rfl, HBI, HX, HR, HU, HO, HBA⟩ := hrel
    have p2 := (own_hi HO.out hq).2.1
    rw [← HHE.out] at p2
    have hL0 := HL0.out
    by_cases hlt : m ≤ H
    · have e1 : decide (m ≤ H) = true := decide_eq_true hlt
      have hwm : IntKind.i64.wrap (m + 1) = m + 1 := IntWalk.i64_in _ (by omega)
      have hzg := lt_of_block HU.out
      have hb1 := box_below wr (.cells #[] 43)
      have ho1 := act_empty 43 2 wr.heap.size wr (Nat.le_refl _)
      have hz1 : wr.heap.size ≤ (wr.alloc (.cells #[] 43)).heap.size := by simp
      have hca : 0 < N → ∃ b off, (some (⟨g, 0, none⟩ : Addr)) = some ⟨b, off, none⟩ ∧ ∀ j u, (flatR (gradesL d N))[j]? = some u → (wr.alloc (.cells #[] 43)).cell? ⟨b, off + j, none⟩ = some u := fun h => by
        obtain ⟨g', rc', hge, -, hgl, hcell⟩ := own_getR HO.out h
        cases hge
        refine ⟨g, 0, rfl, fun j u hj => ?_⟩
        have hj2 : j < N * 2 := by
          have := (List.getElem?_eq_some_iff.1 hj).1
          rw [flatR_length, grades_len] at this
          exact this
        rw [Nat.zero_add]
        exact (hb1.cell (p := ⟨g, j, none⟩) hgl).trans ((hcell j hj2).trans hj)
      obtain ⟨ov, W3, hr3, ho3, hb3, -, -, -⟩ := act_app2 el37 wr.heap.size 0 (.slice (some ⟨wr.heap.size, 0, none⟩) 0 0) [] (some ⟨g, 0, none⟩) N rc (flatR (gradesL d N)) (wr.alloc (.cells #[] 43)) (fun k => k < (wr.alloc (.cells #[] 43)).heap.size) 37 (by simp [maxLen]; omega) (by omega) ho1 hz1 (by rw [flatR_length, grades_len]) (fun h => by cases h) hca flatR_one (fun k hk => by simp [Value.ownBlock] at hk; subst hk; simp) (fun k h => h)
      have HRUN := Lib.hid hr3
      have HO3 := Lib.hid ho3
      have HBB := Lib.hid (hb1.trans hb3)
      clear hr3 ho3 hb3 hca hz1 ho1 hb1
      rw [Nat.zero_add, List.nil_append] at HO3
      go_wp2_with (first
        | (refine wpList_append_by (v := ov) (W' := W3) (y := .slice (some ⟨wr.heap.size, 0, none⟩) 0 0) (z := .slice (some ⟨g, 0, none⟩) N rc) rfl (.tmp 34) (.tmp 35) 37 37 37 rfl rfl rfl rfl HRUN.out ?_
           replace HX := Lib.hid ((HBB.out.block _ (lt_of_block HX.out)).trans HX.out)
           replace HR := Lib.hid ((HBB.out.block _ (lt_of_block HR.out)).trans HR.out)
           replace HU := Lib.hid ((HBB.out.block _ (lt_of_block HU.out)).trans HU.out)
           replace HO := Lib.hid (own_same HO.out (fun g _ hg => HBB.out.block g hg))
           replace HBA := Lib.hid (below_to HBA.out HBB.out)
           have HZ3 := Lib.hid HBB.out.size
           clear p2 HRUN HBB
           obtain ⟨oa, oc, rfl⟩ := own_shape HO3.out
           obtain ⟨g2, oc', hge, hgb2, hgl2, -⟩ := own_getR HO3.out (by omega)
           cases hge
           have HGB2 := Lib.hid hgb2
           skip)
        | (refine wpList_store_mid rfl 43 (.tmp 42) (.tmp 41) rfl g2 (q * 2) #[.int .i64 m, .int .i64 m] rfl rfl (there_ownR HO3.out hq) (by kernel_rfl) (by simp [Value.oneCell']) ?_
           have hot := (put_cells g2 (q * 2) [.int .i64 m, .int .i64 m] W3).other
           have y0 := own_setR ⟨m, m⟩ (by rw [grades_len]) HO3.out hq
           have hbe := (put_cells g2 (q * 2) [.int .i64 m, .int .i64 m] W3).below HBA.out (by have := HBA.out.size; have := HNE.out; have := HGB2.out; omega)
           have y1 := (hot w.heap.size (by have := HNE.out; have := HGB2.out; omega)).trans HX.out
           have y2 := (hot (w.heap.size + 1) (by have := HNE.out; have := HGB2.out; omega)).trans HR.out
           have y3 := (hot ob (by have := HNE.out; have := HGB2.out; omega)).trans HU.out
           have y4 := row_other HO.out (by have := HNE.out; have := HGB2.out; omega) hot
           have HO4 : Hid (World.ownsRow _ wr.heap.size 43 2 (.slice (some ⟨g2, 0, none⟩) N oc) N (flatR (startB d N q m))) := Lib.hid y0
           have HX4 := Lib.hid y1
           have HR4 := Lib.hid y2
           have HU4 := Lib.hid y3
           have HQ4 := Lib.hid y4
           have HB4 := Lib.hid hbe
           clear hot y0 y1 y2 y3 y4 hbe HX HR HU HO HBA HO3 HZ3 hgb2 hgl2
           simp only [Array.toList] at HX4 HR4 HU4 HO4 HQ4 HB4 ⊢
           generalize World.setCells W3 _ _ _ = W4 at *
           have c0 := cell_of_row W4 w.heap.size 0 _ _ _ HX4.out
           have c1 := cell_of_row W4 w.heap.size 1 _ _ _ HX4.out
           simp only [List.getElem?_toArray, List.getElem?_cons_zero, List.getElem?_cons_succ] at c0 c1
           have l1 := lt_of_block HX4.out
           skip)
        | fail)
      have HRB := Lib.hid (startB_in (m := m) HOK.out HCA.out hq (by rw [← HLE.out]; exact hm1) (by rw [← HHE.out]; exact hlt))
      refine (narrow_any N v _ cs (startB d N q m) W4 HOK.out.w (startB_len _ _ _ _) HRB.out (HVS.out W4 HB4.out) (RefV.of_rgs (own_rgs (l := startB d N q m) (by rw [startB_len]; exact HO4.out)))).mono ?_
      rintro e W5 ⟨hR, hb⟩
      replace HX4 := Lib.hid ((hb.block _ (lt_of_block HX4.out)).trans HX4.out)
      replace HR4 := Lib.hid ((hb.block _ (lt_of_block HR4.out)).trans HR4.out)
      replace HU4 := Lib.hid ((hb.block _ (lt_of_block HU4.out)).trans HU4.out)
      replace HQ4 := Lib.hid (own_same HQ4.out (fun g _ hg => hb.block g hg))
      replace HB4 := Lib.hid (below_to HB4.out hb)
      have HOB := Lib.hid (Nat.lt_of_lt_of_le hzg HGB2.out)
      have HSZ : Hid (ob < W4.heap.size) := Lib.hid (by have := own_at HO4.out (by omega); have := HOB.out; omega)
      clear hb c0 c1 l1 HO4 hzg
      rcases hR with ⟨r, xs, rfl, hN, hs, hne, ho⟩ | ⟨rfl, xs, k, hN, hk, he⟩
      · have HBN := Lib.hid (BetI.yes HOK.out HCA.out hp hq (by rw [← HLE.out]; exact hm1) (by rw [← HHE.out]; exact hlt) HBI.out hN hs hne)
        have hxb : 0 ≤ (rg xs p).lo ∧ (rg xs p).hi ≤ 100 ∧ (rg xs p).lo ≤ (rg xs p).hi := by
          have h1 := HRB.out p hp
          have h2 := hN.sub p hp
          have h3 := hne p hp
          omega
        obtain ⟨g3, c3, rfl, hg3, hgl3, hcell⟩ := own_getR ho (by omega)
        obtain ⟨k1, k2⟩ := flatR_get xs p (by rw [hN.len]; exact hp)
        have p3 := (hcell (p * 2) (by omega)).trans k1
        have p4 := (hcell (p * 2 + 1) (by omega)).trans k2
        have HG3 := Lib.hid hg3
        clear hN hs hne ho hcell k1 k2 HRB hg3
        obtain ⟨X, hX⟩ : ∃ X, X = (rg xs p).lo := ⟨_, rfl⟩
        obtain ⟨Y, hY⟩ : ∃ Y, Y = (rg xs p).hi := ⟨_, rfl⟩
        rw [← hX, ← hY] at HBN hxb
        rw [← hX] at p3
        rw [← hY] at p4
        clear hX hY
        have hw1 : IntKind.i64.wrap (X - m) = X - m := IntWalk.i64_in _ (by omega)
        have hw2 : IntKind.i64.wrap (Y - m) = Y - m := IntWalk.i64_in _ (by omega)
        have d0 := cell_of_row W5 ob 0 _ _ _ HU4.out
        have d1 := cell_of_row W5 ob 1 _ _ _ HU4.out
        simp only [List.getElem?_toArray, List.getElem?_cons_zero, List.getElem?_cons_succ] at d0 d1
        have l1 := lt_of_block HU4.out
        go_wp2_with fail
        go_still_tail 21, (by kernel_rfl)
        change wpList _ _ _ _ _ W5.drew
        have hb : Below W5.heap.size W5 W5.drew := below_drawn W5
        replace HX4 := Lib.hid ((hb.block _ (lt_of_block HX4.out)).trans HX4.out)
        replace HR4 := Lib.hid ((hb.block _ (lt_of_block HR4.out)).trans HR4.out)
        replace HU4 := Lib.hid ((hb.block _ (lt_of_block HU4.out)).trans HU4.out)
        replace HQ4 := Lib.hid (own_same HQ4.out (fun g _ hg => hb.block g hg))
        replace HB4 := Lib.hid (below_to HB4.out hb)
        clear hb p3 p4 d0 d1 l1 hgl3
        generalize W5.drew = W6 at *
        refine wpList_store_mid rfl 43 (.tmp 9) (.tmp 70) rfl ob 0 #[.int .i64 (min lo (X - m)), .int .i64 (max hi (Y - m))] rfl (by simp [go_sem]; constructor <;> split <;> omega) (there_block HU4.out (by simp)) (by kernel_rfl) (by simp [Value.oneCell']) ?_
        have hot := (put_cells ob 0 [.int .i64 (min lo (X - m)), .int .i64 (max hi (Y - m))] W6).other
        have hbe := (put_cells ob 0 [.int .i64 (min lo (X - m)), .int .i64 (max hi (Y - m))] W6).below HB4.out (by have := HNE.out; omega)
        have y1 := (hot w.heap.size (by have := HNE.out; omega)).trans HX4.out
        have y2 := (hot (w.heap.size + 1) (by have := HNE.out; omega)).trans HR4.out
        have y3 := set_pair (x := .int .i64 (min lo (X - m))) (y := .int .i64 (max hi (Y - m))) HU4.out
        have y4 := row_other HQ4.out (by have := HNE.out; omega) hot
        have HX7 := Lib.hid y1
        have HR7 := Lib.hid y2
        have HU7 := Lib.hid y3
        have HQ7 := Lib.hid y4
        have HB7 := Lib.hid hbe
        clear hot hbe y1 y2 y3 y4 HX4 HR4 HU4 HQ4 HB4
        simp only [Array.toList] at HX7 HR7 HU7 HQ7 HB7 ⊢
        generalize World.setCells W6 _ _ _ = W7 at *
        go_wp2_with fail
        go_roundw
        case rel => exact ⟨m + 1, min lo (X - m), max hi (Y - m), by omega, by omega, rfl, HBN, HX7, HR7, HU7, HQ7, HB7⟩
        case measure => simp [intOf] <;> omega
      · have HBN := Lib.hid (BetI.no HOK.out HCA.out hp hq HBI.out hN hk he)
        clear hN hk he HRB
        go_wp2_with fail
        go_roundw
        case rel => exact ⟨m + 1, lo, hi, by omega, by omega, rfl, HBN, HX4, HR4, HU4, HQ4, HB4⟩
        case measure => simp [intOf] <;> omega
    · obtain rfl : m = H + 1 := by omega
      obtain ⟨rfl, rfl⟩ := HBI.out.done HOK.out HCA.out hp hq (by rw [← HHE.out]; omega)
      have d0 := cell_of_row wr ob 0 _ _ _ HU.out
      have d1 := cell_of_row wr ob 1 _ _ _ HU.out
      simp only [List.getElem?_toArray, List.getElem?_cons_zero, List.getElem?_cons_succ] at d0 d1
      have l1 := lt_of_block HU.out
      have e1 : decide (H + 1 ≤ H) = false := decide_eq_false hlt
      go_wp2_with (first
        | (refine wpList_store_mid rfl 43 (.tmp 6) (.tmp 71) rfl (w.heap.size + 1) 0 #[.int .i64 (-d (p + 1) (q + 1)), .int .i64 (d (q + 1) (p + 1))] rfl rfl (there_block HR.out (by simp)) (by kernel_rfl) (by simp [Value.oneCell']) ?_
           have hot := (put_cells (w.heap.size + 1) 0 [.int .i64 (-d (p + 1) (q + 1)), .int .i64 (d (q + 1) (p + 1))] wr).other
           have hbe := (put_cells (w.heap.size + 1) 0 [.int .i64 (-d (p + 1) (q + 1)), .int .i64 (d (q + 1) (p + 1))] wr).below HBA.out (by omega)
           have y0 := set_pair (x := .int .i64 (-d (p + 1) (q + 1))) (y := .int .i64 (d (q + 1) (p + 1))) HR.out
           have HB9 := Lib.hid hbe
           have HR9 := Lib.hid y0
           clear hot y0 hbe d0 d1 l1 p2
           simp only [Array.toList] at HR9 HB9 ⊢
           generalize World.setCells wr _ _ _ = W9 at *
           skip)
        | fail)
      have e0 := cell_of_row W9 (w.heap.size + 1) 0 _ _ _ HR9.out
      have e1 := cell_of_row W9 (w.heap.size + 1) 1 _ _ _ HR9.out
      simp only [List.getElem?_toArray, List.getElem?_cons_zero, List.getElem?_cons_succ] at e0 e1
      go_wp2
      refine bodyPost_ret (v := .agg #[.int .i64 (-d (p + 1) (q + 1)), .int .i64 (d (q + 1) (p + 1))]) ?_ rfl ⟨rfl, HB9.out⟩
      simp [results, Try.results28, go_sem, e0, e1]
end Go.Proofs.Ytplmlmmjfkbabaa
