/- TableText: the program's own walk. -/
import Derived.Test.YtglbndobbmgjmaaDoorTtI
namespace Go.Proofs.YtglbndobbmgjmaaDoor
open Go.RowKit
set_option linter.unusedVariables false

theorem OwnsU.base {w : World} {base b : Nat} {v : Value} {l : List Int} (h : OwnsU w base v l) (hb : b ≤ base) : OwnsU w b v l := by
  obtain ⟨h1, h2⟩ := h
  refine ⟨h1, ?_⟩
  rcases h2 with h2 | ⟨g, cap, cur, hv, hbg, hg, r⟩
  · exact .inl h2
  · exact .inr ⟨g, cap, cur, hv, Nat.le_trans hb hbg, hg, r⟩
theorem OwnsU.rowsFrom {w : World} {base : Nat} {v : Value} {l : List Int} (h : OwnsU w base v l) : ∀ k, v.ownBlock = some k → base ≤ k :=
  fun k e => (World.ownsRow.lt (w := w) (base := base) (e := 5) (size := 1) (v := v) (n := l.length) (xs := l.map (Value.int .u8)) h k e).1
theorem resTT_tab {n v : Int} (h : isTab n v = true) : resTableText_0 n v = strZ (txtZ n v (2 ^ n.toNat)) ∧ resTableText_1 n v = 0 := by
  unfold resTableText_0 resTableText_1; rw [if_pos h, if_pos h]; exact ⟨rfl, rfl⟩
theorem ownsUKeepAt {w w' : World} {B base : Nat} {v : Value} {l : List Int} (hb : Below B w w') (hB : w.heap.size ≤ B) (h : OwnsU w base v l) : OwnsU w' base v l := h.keep (hb.mono hB)

end Go.Proofs.YtglbndobbmgjmaaDoor
