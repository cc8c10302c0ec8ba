/- ExchangeEnds of the program. -/
import Derived.Test.YtibfenkaoaclfaaBt
import Derived.Test.YtibfenkaoaclfaaNetOf
namespace Go.Proofs.Ytibfenkaoaclfaa
open Go.RowKit
set_option linter.unusedVariables false

theorem renC_four {zero one next : Int} {xss : List (List Int)} : ∀ c, c ∈ xss.map (renC zero one next) → c.length = 4 := by
  intro c hc
  obtain ⟨d, _, rfl⟩ := List.mem_map.1 hc
  rfl

theorem C2.lowB {w w' : World} {b B : Nat} {x y : Value} (h : C2 w b x y) (hb : Below B w w') (hB : b < B) : C2 w' b x y := by
  obtain ⟨h0, h1, f0, f1, hz⟩ := h
  have e := hb.block b hB
  have := hb.size
  exact ⟨(World.cell?_of_block (w := w) e).trans h0, (World.cell?_of_block (w := w) e).trans h1, (World.frozen?_of_block (w := w) e).trans f0, (World.frozen?_of_block (w := w) e).trans f1, by omega⟩

end Go.Proofs.Ytibfenkaoaclfaa
