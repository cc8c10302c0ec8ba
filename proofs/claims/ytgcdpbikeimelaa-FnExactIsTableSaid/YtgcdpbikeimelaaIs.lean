/- The walk of FnExactIsTable. -/
import Derived.Test.YtgcdpbikeimelaaBase
namespace Go.Proofs.Ytgcdpbikeimelaa
open Go.RowKit
set_option linter.unusedVariables false

theorem specIsTable_any (n v : Int) (w : World) :
    Calls Try.prog 13 #[.agg #[.int .i64 n, .int .i64 v]] w fun e w' => e = .returned (.bool (isTab n v)) ∧ Below w.heap.size w w' := by
  go_enter Try.func13, Try.ntmps13
  go_wp2_with fail
  refine (l01Is_any _ _ _).mono ?_
  rintro e w1 ⟨rfl, hb⟩
  go_wp2
  go_ret
  exact ⟨rfl, ((Below.refl _ _).alloc (Nat.le_refl _) _).trans (hb.mono (by simp))⟩

theorem walkFnExactIsTable (a b : Int) (wa : (Lit.int .i64 a).wf = true) (wb : (Lit.int .i64 b).wf = true) (w : World) :
    Calls Try.prog 3 #[.agg #[.int .i64 a, .int .i64 b]] w fun e w' => e = .returned (.bool true) ∧ Below w.heap.size w w' := by
  go_enter Try.func3, Try.ntmps3
  go_wp2_with fail
  refine (toTable_any _ _ _).mono ?_
  rintro e w1 ⟨rfl, hb1⟩
  have hB1 := Bx.of hb1
  clear hb1
  obtain ⟨hc0, hc1⟩ := hB1.tab
  have hz1 := hB1.size
  go_wp2_with fail
  refine (specIsTable_any _ _ _).mono ?_
  rintro e w2 ⟨rfl, hb2⟩
  have hB2 := hB1.next hb2
  clear hc0 hc1 hb2 hz1
  obtain ⟨hc0, hc1⟩ := hB2.tab
  have hz2 := hB2.size
  go_wp2_with fail
  refine (toTable_any _ _ _).mono ?_
  rintro e w3 ⟨rfl, hb3⟩
  have hB3 := hB2.next hb3
  clear hc0 hc1 hb3 hz2
  go_wp2_with fail
  refine (isTable_any _ _ _).mono ?_
  rintro e w4 ⟨rfl, hb4⟩
  have hB4 := hB3.next hb4
  clear hb4
  cases isTab a b <;>
  · go_wp2
    go_ret
    exact ⟨rfl, hB4.below⟩

end Go.Proofs.Ytgcdpbikeimelaa
