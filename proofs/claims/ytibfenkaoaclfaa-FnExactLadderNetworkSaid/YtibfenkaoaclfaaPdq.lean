/- slices.SortFunc at contacts. -/
import Derived.Test.YtibfenkaoaclfaaSort
import Derived.Test.YtibfenkaoaclfaaLen
namespace Go.Proofs.Ytibfenkaoaclfaa
open Go.RowKit
set_option linter.unusedVariables false

set_option maxRecDepth 100000 in
set_option maxHeartbeats 2000000 in
theorem pdq_any (v : Value) (n : Nat) (lim : Int) (L : List (List Int)) (base : Nat) (w : World) (hn : L.length = n) (hn12 : n ≤ 12) (h4 : ∀ c, c ∈ L → c.length = 4) (hb : base ≤ w.heap.size) (ho : OwnsC w base v L) :
    Calls Try.prog 80 #[v, .int .i64 0, .int .i64 (n : Int), .int .i64 lim, .func (.func 77) #[] #[]] w fun e w' => e = .returned (.tuple #[]) ∧ OwnsC w' base v (sortL L) ∧ ∀ B C, (∀ k, v.ownBlock = some k → B ≤ k ∧ k < C) → Only B C w w' := by
  have HI := Lib.hid (insertionV_any v n L base w hn hn12 h4 hb ho)
  have h12 : (n : Int) ≤ 12 := by omega
  have hw : wrap64 (n : Int) = (n : Int) := IntWalk.wrap64_in _ (by omega)
  have hw2 : IntKind.i64.wrap (n : Int) = (n : Int) := IntWalk.i64_in _ (by omega)
  have hs0 : (n : Int) - 0 = (n : Int) := by omega
  clear hn hn12 h4 hb ho
  go_enter Try.func80, Try.ntmps80
  go_wp2_with fail
  refine wp_loop_rounds 1 ?_
  rw [rounds_succ]
  go_wp2_with fail
  refine HI.out.mono ?_
  rintro e w' ⟨rfl, oo, hL⟩
  go_wp2_with fail
  (try simp only [Exit.inBlock, Exit.then]); refine bodyPost_ret (results_none rfl _ _ _) rfl ?_
  exact ⟨rfl, oo, hL⟩

set_option maxHeartbeats 2000000 in
theorem sortFunc_any (v : Value) (L : List (List Int)) (base : Nat) (w : World) (hn12 : L.length ≤ 12) (h4 : ∀ c, c ∈ L → c.length = 4) (hb : base ≤ w.heap.size) (ho : OwnsC w base v L) :
    Calls Try.prog 76 #[v, .func (.func 77) #[] #[]] w fun e w' => e = .returned (.tuple #[]) ∧ OwnsC w' base v (sortL L) ∧ ∀ B C, (∀ k, v.ownBlock = some k → B ≤ k ∧ k < C) → Only B C w w' := by
  obtain ⟨a, cap, rfl, _, _⟩ := ho.reads
  have HI := Lib.hid (fun lim => pdq_any _ L.length lim L base w rfl hn12 h4 hb ho)
  have HL := Lib.hid (len_any L.length w hn12)
  have h5 : IntKind.u64.wrap (L.length : Int) = (L.length : Int) := IntWalk.u64_in _ (by omega)
  clear hn12 h4 hb ho
  generalize hm : L.length = m at *
  clear hm
  go_enter Try.func76, Try.ntmps76
  go_wp2_with fail
  refine HL.out.mono ?_
  rintro e w' ⟨⟨l, rfl⟩, rfl⟩
  go_wp2_with fail
  refine (HI.out _).mono ?_
  rintro e w' ⟨rfl, oo, hL⟩
  go_wp2_with fail
  go_end0
  exact ⟨rfl, oo, hL⟩

end Go.Proofs.Ytibfenkaoaclfaa
