/- The truths that the search finds: facts and contracts. -/
import Derived.Test.YtfjlnejeffkdoaaBB
namespace Go.Proofs.Ytfjlnejeffkdoaa
open Go.RowKit Go.Shelf
attribute [local irreducible] arrV
attribute [local go_sem] Oper.semAt_some

theorem lowT_tr {ps : List Pt} {r : Rl} (F : Sane ps r) : IsTr ps (lowT ps) :=
  ⟨upT_len _ _, fun i hi => by
    have := F.lo i hi
    unfold lowT
    rw [upT_ld _ _ _ (by have := F.len; omega), if_pos hi]; omega, fun i hi => by
    unfold lowT
    by_cases h : i < 20
    · rw [upT_ld _ _ _ h, if_neg (by omega)]
    · simp only [ld, List.getElem?_eq_none (show (upT (fun i => (pt ps i).lo) ps.length).length ≤ i by rw [upT_len]; omega)]; rfl⟩

theorem truths_yield {ps : List Pt} {r : Rl} (F : Sane ps r) (b off cap : Nat) : TruthsOf ps r b off cap 79 (searchL ps (chD ps r) (hpD r)) :=
  ⟨fun args w => enters_of Try.func79 (by kernel_rfl) rfl args w, fun w hp => by
    refine (yielding_fn _ _ _ _ w).mono ?_
    rintro e w' ⟨rfl, rfl⟩
    obtain ⟨b0, b1, b2⟩ := box3 w (.cells #[.slice (some ⟨b, off, none⟩) ps.length cap, .int .i64 r.d, .int .i64 r.k, .int .i64 r.o] 94) (.cells #[.slice (some ⟨b, off, none⟩) ps.length cap, .int .i64 r.d, .int .i64 r.k, .int .i64 r.o] 94) (.cells #[.func (.func 94) #[] #[], .func (.func 95) #[] #[]] 149)
    have hb := below3 w (.cells #[.slice (some ⟨b, off, none⟩) ps.length cap, .int .i64 r.d, .int .i64 r.k, .int .i64 r.o] 94) (.cells #[.slice (some ⟨b, off, none⟩) ps.length cap, .int .i64 r.d, .int .i64 r.k, .int .i64 r.o] 94) (.cells #[.func (.func 94) #[] #[], .func (.func 95) #[] #[]] 149)
    refine ⟨100, _, rfl, hb, fun args w => enters_of Try.func100 (by kernel_rfl) rfl args w, _, ?_, search_seq 94 95 (w.heap.size + 1) (w.heap.size + 2) b off cap ps r _ _ _ F (evD b off cap ps r F) ⟨b1, hp.below hb (block_lt_of_cell (hp 0 F.pos).1)⟩ b2 (lowT_tr F)⟩
    rintro k (h | h | h)
    · exact .inl ⟨by omega, by simp; omega⟩
    · exact .inr h
    · exact .inl ⟨by omega, by simp; omega⟩⟩
theorem truths_meet {ps : List Pt} {r : Rl} (F : Sane ps r) (b off cap : Nat) : TruthsOf ps r b off cap 81 (searchL ps (chM ps r) (hpM ps r)) :=
  ⟨fun args w => enters_of Try.func81 (by kernel_rfl) rfl args w, fun w hp => by
    refine (meeting_fn _ _ _ _ w).mono ?_
    rintro e w' ⟨rfl, rfl⟩
    obtain ⟨b0, b1, b2⟩ := box3 w (.cells #[.slice (some ⟨b, off, none⟩) ps.length cap, .int .i64 r.d, .int .i64 r.k, .int .i64 r.o] 94) (.cells #[.slice (some ⟨b, off, none⟩) ps.length cap, .int .i64 r.d, .int .i64 r.k, .int .i64 r.o] 94) (.cells #[.func (.func 96) #[] #[], .func (.func 97) #[] #[]] 149)
    have hb := below3 w (.cells #[.slice (some ⟨b, off, none⟩) ps.length cap, .int .i64 r.d, .int .i64 r.k, .int .i64 r.o] 94) (.cells #[.slice (some ⟨b, off, none⟩) ps.length cap, .int .i64 r.d, .int .i64 r.k, .int .i64 r.o] 94) (.cells #[.func (.func 96) #[] #[], .func (.func 97) #[] #[]] 149)
    refine ⟨100, _, rfl, hb, fun args w => enters_of Try.func100 (by kernel_rfl) rfl args w, _, ?_, search_seq 96 97 (w.heap.size + 1) (w.heap.size + 2) b off cap ps r _ _ _ F (evM b off cap ps r F) ⟨b1, hp.below hb (block_lt_of_cell (hp 0 F.pos).1)⟩ b2 (lowT_tr F)⟩
    rintro k (h | h | h)
    · exact .inl ⟨by omega, by simp; omega⟩
    · exact .inr h
    · exact .inl ⟨by omega, by simp; omega⟩⟩

theorem found_yield : FoundBy 80 (fun x => (x.ya, x.y)) := ⟨fun args w => enters_of Try.func80 (by kernel_rfl) rfl args w, fun x w => f_yield _ _ _ _ _ _ _ w⟩
theorem found_proof : FoundBy 82 (fun x => (x.ma, x.pl)) := ⟨fun args w => enters_of Try.func82 (by kernel_rfl) rfl args w, fun x w => f_proof _ _ _ _ _ _ _ w⟩
theorem found_strength : FoundBy 78 (fun x => (x.pk, x.st)) := ⟨fun args w => enters_of Try.func78 (by kernel_rfl) rfl args w, fun x w => f_strength _ _ _ _ _ _ _ w⟩
theorem found_work : FoundBy 84 (fun x => (0, x.wk)) := ⟨fun args w => enters_of Try.func84 (by kernel_rfl) rfl args w, fun x w => f_work _ _ _ _ _ _ _ w⟩

/-- The range of the numbers. -/
def bndStep (o : Option (Int × Int)) (n : Int) : Option (Int × Int) := match o with
  | none => some (n, n)
  | some (lo, hi) => some (min lo n, max hi n)
def bnd (xs : List (Int × Int)) : Option (Int × Int) := xs.foldl (fun o x => bndStep o x.2) none
theorem bnd_snoc (xs : List (Int × Int)) (x : Int × Int) : bnd (xs ++ [x]) = bndStep (bnd xs) x.2 := by simp [bnd]
end Go.Proofs.Ytfjlnejeffkdoaa
