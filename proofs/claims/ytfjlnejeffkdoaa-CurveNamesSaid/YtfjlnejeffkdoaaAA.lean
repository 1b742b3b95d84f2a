/- The search for a drop and for a meeting: contracts. -/
import Derived.Test.YtfjlnejeffkdoaaZ
namespace Go.Proofs.Ytfjlnejeffkdoaa
open Go.RowKit Go.Shelf

def chD (ps : List Pt) (r : Rl) (p : Plc) : List Int := dropCh ps r p.2 (p.1 + 1).toNat
def hpD (r : Rl) (f t : Plc) : Bool := dropHap f.1 f.2 t.2 r.d
def chM (ps : List Pt) (r : Rl) (p : Plc) : List Int := [(pt ps (p.1 + 1).toNat).lo, (pt ps (p.1 + 1).toNat).hi, lineI ps r (p.1 + 1).toNat]
def hpM (ps : List Pt) (r : Rl) (_ t : Plc) : Bool := decide (t.2 ≤ lineI ps r t.1.toNat)
theorem toN (i : Nat) : ((i : Int) - 1 + 1).toNat = i := by omega

theorem dropCh_len (ps : List Pt) (r : Rl) (fl : Int) (i : Nat) : 2 ≤ (dropCh ps r fl i).length ∧ (dropCh ps r fl i).length ≤ 4 := by
  unfold dropCh
  split <;> split <;> simp

theorem intsIn_own {w : World} {base : Nat} {v : Value} {L : List Int} (h : w.ownsRow base 3 1 v L.length (L.map (Value.int .i64))) (hL : 0 < L.length) : ∃ B c, v = .slice (some ⟨B, 0, none⟩) L.length c ∧ IntsIn w B 0 L ∧ base ≤ B ∧ B < w.heap.size := by
  obtain ⟨h1, h2⟩ := h
  rcases h2 with ⟨-, h0⟩ | ⟨g, cap, cur, rfl, hb, hg, hn, hc, hs, ht⟩
  · omega
  · refine ⟨g, cap, rfl, fun i hi => ?_, hb, lt_of_block hg⟩
    rw [Nat.zero_add, cell_of_row w g i _ _ _ hg]
    have := congrArg (·[i]?) ht
    simp only [Nat.mul_one, List.getElem?_take, if_pos hi, List.getElem?_map] at this
    rw [← Array.getElem?_toList, this]
    simp [ld, hi]

theorem evD (b off cap : Nat) (ps : List Pt) (r : Rl) (F : Sane ps r) : Ev b off cap ps r 94 95 (chD ps r) (hpD r) where
  ec := fun args w => enters_of Try.func94 (by kernel_rfl) rfl args w
  eh := fun args w => enters_of Try.func95 (by kernel_rfl) rfl args w
  c := fun i fl w hi hf hp => by
    refine (drop_choices b off cap ps r _ fl i w F hi rfl hf hp).mono ?_
    rintro e w' ⟨v, rfl, hown, hb⟩
    obtain ⟨B, c, rfl, h1, h2, h3⟩ := intsIn_own hown (by have := dropCh_len ps r fl i; omega)
    simp only [chD, toN]
    exact ⟨B, c, rfl, h1, h2, h3, hb⟩
  h := fun i fl tl w hi hf ht hp => (drop_happens _ _ fl _ tl r.d r.k r.o w (by simp [Value.oneCell']) hf ht).mono fun e w' h => h
  len := fun p => (dropCh_len ps r p.2 _).2

theorem evM (b off cap : Nat) (ps : List Pt) (r : Rl) (F : Sane ps r) : Ev b off cap ps r 96 97 (chM ps r) (hpM ps r) where
  ec := fun args w => enters_of Try.func96 (by kernel_rfl) rfl args w
  eh := fun args w => enters_of Try.func97 (by kernel_rfl) rfl args w
  c := fun i fl w hi hf hp => by
    refine (meet_choices b off cap ps r _ fl i w F hi rfl hp).mono ?_
    rintro e w' ⟨B, c, rfl, h1, h2, hb⟩
    simp only [chM, toN]
    exact ⟨B, c, rfl, h1, h2, block_lt_of_cell (h1 0 (by simp)), hb⟩
  h := fun i fl tl w hi hf ht hp => by
    refine (meet_happens b off cap ps r _ fl tl i w F hi hp).mono ?_
    rintro e w' ⟨rfl, hb⟩
    exact ⟨by simp [hpM], hb⟩
  len := fun p => by simp [chM]

theorem yielding_fn (v d k o : Value) (w : World) : Calls Try.prog 79 #[.agg #[v, d, k, o]] w fun e w' => e = .returned (.func (.func 100) #[] #[.pointer (some ⟨w.heap.size + 1, 0, none⟩), .pointer (some ⟨w.heap.size + 2, 0, none⟩)]) ∧
    w' = ((w.alloc (.cells #[v, d, k, o] 94)).alloc (.cells #[v, d, k, o] 94)).alloc (.cells #[.func (.func 94) #[] #[], .func (.func 95) #[] #[]] 149) := by
  have hc := Lib.hid (search_fn v d k o (.func (.func 94) #[] #[]) (.func (.func 95) #[] #[]) (w.alloc (.cells #[v, d, k, o] 94)))
  go_enter Try.func79, Try.ntmps79
  go_wp2_with (go_at_call 93; refine hc.out.mono ?_; rintro e w1 ⟨rfl, rfl⟩)
  go_ret
  exact ⟨by simp, rfl⟩
theorem meeting_fn (v d k o : Value) (w : World) : Calls Try.prog 81 #[.agg #[v, d, k, o]] w fun e w' => e = .returned (.func (.func 100) #[] #[.pointer (some ⟨w.heap.size + 1, 0, none⟩), .pointer (some ⟨w.heap.size + 2, 0, none⟩)]) ∧
    w' = ((w.alloc (.cells #[v, d, k, o] 94)).alloc (.cells #[v, d, k, o] 94)).alloc (.cells #[.func (.func 96) #[] #[], .func (.func 97) #[] #[]] 149) := by
  have hc := Lib.hid (search_fn v d k o (.func (.func 96) #[] #[]) (.func (.func 97) #[] #[]) (w.alloc (.cells #[v, d, k, o] 94)))
  go_enter Try.func81, Try.ntmps81
  go_wp2_with (go_at_call 93; refine hc.out.mono ?_; rintro e w1 ⟨rfl, rfl⟩)
  go_ret
  exact ⟨by simp, rfl⟩
end Go.Proofs.Ytfjlnejeffkdoaa
