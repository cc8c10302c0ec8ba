/- Small laws for the walks of the laws of networks. -/
import Derived.Test.YtglbndobbmgjmaaDoorMark2
import Derived.Test.YtglbndobbmgjmaaDoorNetB
namespace Go.Proofs.YtglbndobbmgjmaaDoor
open Go.RowKit
set_option linter.unusedVariables false

theorem own2At {w w' : World} {B C : Nat} {v : Value} {xss : List (List Int)} (hb : Below w.heap.size w w') (h : Own2 w B C v xss) : Own2 w' B C v xss := h.keep hb
theorem toNetwork_x (p : Int) (va : Value) (xss : List (List Int)) (w : World) (ha : Reads2 w va xss) (hn : xss.length ≤ 1048576) (hl : ∀ i, i < xss.length → (xss.getD i []).length ≤ 1048576) :
    Calls Tryd.prog 6 #[.agg #[.int .i64 p, va]] w fun e w' => ∃ a cap B C, e = .returned (.agg #[.int .i64 p, .slice a xss.length cap]) ∧ Own2 w' B C (.slice a xss.length cap) xss ∧ w.heap.size ≤ B ∧ (B ≤ C ∧ C ≤ w'.heap.size) ∧ Below w.heap.size w w' := by
  refine (toNetwork_any p va xss w ha hn hl).mono ?_
  rintro e w' ⟨a, cap, rfl, h, hb⟩
  exact ⟨a, cap, _, _, rfl, h, Nat.le_refl _, ⟨hb.size, Nat.le_refl _⟩, hb⟩

end Go.Proofs.YtglbndobbmgjmaaDoor
