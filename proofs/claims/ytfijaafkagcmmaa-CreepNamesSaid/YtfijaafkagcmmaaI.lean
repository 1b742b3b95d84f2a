/- The iterator over all rates of a material: its contract. Conditions: a valid material. -/
import Derived.Test.YtfijaafkagcmmaaH
import Derived.Laws.EntriesVeiled
namespace Go.Proofs.Ytfijaafkagcmmaa
open Go.RowKit Go.Shelf
attribute [local irreducible] arrV
attribute [local go_sem] Oper.semAt_some

def encX (x : List Int) : Array Value := #[Value.agg (arrV (pad3 x))]

set_option maxRecDepth 100000 in
set_option maxHeartbeats 4000000 in
theorem all_seq (n Bm : Nat) (a : Option Addr) (cap : Nat) (ms : List Rg) (w : World) (hm : RgsOk ms) (hbm : w.heap[Bm]? = some (.cells #[.slice a ms.length cap] 33 (0, 0))) (hV : RgsV n w (.slice a ms.length cap) ms) (hn : n ≤ w.heap.size) :
    SeqD Try.prog 98 #[.pointer (some ⟨Bm, 0, none⟩)] encX (fun x => x ∈ allL ms) (fun k => k < n ∨ k = Bm) (fun xs => xs = allL ms) (fun pre => pre <+: allL ms) w := by
  intro l T0 J Jx W hW hT0 hJ hJx hY h0
  have hBl := lt_of_block hbm
  have hs := hW.size
  have HBM := Lib.hid ((hW.block Bm hBl).trans hbm)
  have HVW := Lib.hid (hV.same (.below hn hW))
  have HY := Lib.hid hY
  have HT0 := Lib.hid hT0
  clear hY hT0 hV hbm hW
  have H2 := Lib.hid (box2 W (.cells #[.func (.yield l) #[] #[]] 142) (.cells (arrV [0, 0, 0]) 105))
  have hz : (#[.int .i64 0, .int .i64 0, .int .i64 0] : Array Value) = arrV [0, 0, 0] := by simp [arrV, iV]
  refine callsIn_of_wp Try.func98 rfl trivial ?_ rfl
  simp only [Try.ntmps98, List.size_toArray, List.length_cons, List.length_nil, Nat.reduceAdd, Nat.reduceSub, Array.replicate_succ, Array.replicate_zero, List.push_toArray, List.append_toArray, List.nil_append, List.cons_append]
  gi_wp2_with fail
  refine ⟨trivial, rfl, ?_⟩
  obtain ⟨y0, y1, y2⟩ := box3 W (.cells #[.func (.yield l) #[] #[]] 142) (.cells (arrV [0, 0, 0]) 105) (.cells #[.func (.func 99) #[] #[.pointer (some ⟨Bm, 0, none⟩), .pointer (some ⟨W.heap.size, 0, none⟩), .pointer (some ⟨W.heap.size + 1, 0, none⟩), .pointer (some ⟨W.heap.size + 1 + 1, 0, none⟩)]] 114)
  have hb3 := below3 W (.cells #[.func (.yield l) #[] #[]] 142) (.cells (arrV [0, 0, 0]) 105) (.cells #[.func (.func 99) #[] #[.pointer (some ⟨Bm, 0, none⟩), .pointer (some ⟨W.heap.size, 0, none⟩), .pointer (some ⟨W.heap.size + 1, 0, none⟩), .pointer (some ⟨W.heap.size + 1 + 1, 0, none⟩)]] 114)
  have hT := HT0.out
  have hOf : Of T0 W.heap.size T0 W := ⟨fun k hk => (hT k hk).1, fun k hk => .inl hk, fun k hk => hk⟩
  have hnW : n ≤ W.heap.size := by omega
  have hO : Own n Bm W.heap.size (W.heap.size + 1) (W.heap.size + 1 + 1) l a cap ms [0, 0, 0] _ :=
    ⟨(hb3.block Bm (lt_of_block HBM.out)).trans HBM.out, y0, y2, y1, Nat.le_trans hnW hb3.size, HVW.out.same (.below hnW hb3)⟩
  have hD : Dis n Bm W.heap.size (W.heap.size + 1) (W.heap.size + 1 + 1) T0 := by
    refine ⟨fun h => (hT _ h).2 (.inr rfl), fun h => ?_, fun h => ?_, fun h => ?_, fun k h => ?_⟩
    · have := (hT _ h).1; omega
    · have := (hT _ h).1; omega
    · have := (hT _ h).1; omega
    · apply Nat.le_of_not_lt
      exact fun hk => (hT _ h).2 (.inl hk)
  have hBl2 := lt_of_block HBM.out
  have key := goOn_any n Bm W.heap.size (W.heap.size + 1) (W.heap.size + 1 + 1) l a cap ms T0 W J Jx hm ⟨by omega, by omega, by omega⟩ (by omega) (by omega) hJ hJx HY.out ms.length T0 [] 0 0 [] [0, 0, 0] _ (by omega) (by omega) rfl rfl rfl
    (fun i _ h3 => by match i, h3 with | 0, _ => rfl | 1, _ => rfl | 2, _ => rfl) (fun t ht => by simpa [allL] using ht) (by simp [allL]) (by omega) hO hD (hOf.grow hb3.size) (But.of_below hb3) (hJ _ _ _ _ h0 (hOf.free hb3))
  refine CallsIn.mono (show CallsIn Fence.wide 0 Try.prog 99 _ _ _ from key) ?_
  clear key hO hD y0 y1 y2
  have hLL : ([] ++ (listsL (ms.drop 0) 0).map ([] ++ ·) : List (List Int)) = allL ms := by simp [allL]
  rintro e W5 ⟨T5, y5, hO5, hD5, hB5, hW5, hl5, ht5, hz5, hend⟩
  rw [hLL] at hend
  rcases hend with ⟨rfl, hj⟩ | ⟨rfl, pre5, hpf, hj⟩
  · gi_wp2
    go_end0
    exact ⟨⟨_, rfl⟩, hB5, T5, hO5, .inl ⟨_, rfl, hj⟩⟩
  · gi_wp2
    go_end0
    exact ⟨⟨_, rfl⟩, hB5, T5, hO5, .inr ⟨_, hpf, hj⟩⟩

set_option maxHeartbeats 400000 in
theorem all_any (n : Nat) (mv : Value) (ms : List Rg) (w : World) (hm : RgsOk ms) (hV : RgsV n w mv ms) (hn : n ≤ w.heap.size) :
    Calls Try.prog 74 #[.agg #[mv]] w fun e w' => ∃ Bm, e = .returned (.func (.func 98) #[] #[.pointer (some ⟨Bm, 0, none⟩)]) ∧ Below w.heap.size w w' ∧ w.heap.size ≤ Bm ∧ Bm < w'.heap.size ∧
      SeqD Try.prog 98 #[.pointer (some ⟨Bm, 0, none⟩)] encX (fun x => x ∈ allL ms) (fun k => k < n ∨ k = Bm) (fun xs => xs = allL ms) (fun pre => pre <+: allL ms) w' := by
  have hV' := hV
  obtain ⟨a, cap, rfl, -⟩ := hV'
  have hb := box_below w (.cells #[.slice a ms.length cap] 33)
  have hx := heap_alloc_new w (.cells #[.slice a ms.length cap] 33)
  have hseq := Lib.hid (all_seq n w.heap.size a cap ms _ hm hx (hV.same (.below hn hb)) (Nat.le_trans hn hb.size))
  clear hV hx
  go_enter Try.func74, Try.ntmps74
  go_wp2
  go_ret
  exact ⟨w.heap.size, rfl, hb, Nat.le_refl _, by simp, hseq.out⟩
end Go.Proofs.Ytfijaafkagcmmaa
