/- A box of four cells through a walk. -/
import Derived.Test.YtohmhiodmaahfaaDoorBase
namespace Go.Proofs.YtohmhiodmaahfaaDoor
open Go.RowKit
set_option linter.unusedVariables false

/-- what the first four cells of a block hold -/
abbrev C4 (w : World) (b : Nat) (x y z u : Value) : Prop := (w.cell? ⟨b, 0, none⟩ = some x ∧ w.cell? ⟨b, 1, none⟩ = some y ∧ w.cell? ⟨b, 2, none⟩ = some z ∧ w.cell? ⟨b, 3, none⟩ = some u) ∧ b < w.heap.size
theorem C4.here (w : World) (x y z u : Value) (t : TypeId) : C4 (w.alloc (.cells #[x, y, z, u] t)) w.heap.size x y z u :=
  ⟨⟨by rw [World.cell?_alloc_at _ _ _ _ rfl]; rfl, by rw [World.cell?_alloc_at _ _ _ _ rfl]; rfl, by rw [World.cell?_alloc_at _ _ _ _ rfl]; rfl, by rw [World.cell?_alloc_at _ _ _ _ rfl]; rfl⟩, by simp⟩
theorem C4.keep {w w' : World} {b : Nat} {x y z u : Value} (h : C4 w b x y z u) (hb : Below w.heap.size w w') : C4 w' b x y z u := by
  obtain ⟨⟨h0, h1, h2, h3⟩, hz⟩ := h
  have := hb.size
  exact ⟨⟨(hb.cell (p := ⟨b, 0, none⟩) hz).trans h0, (hb.cell (p := ⟨b, 1, none⟩) hz).trans h1, (hb.cell (p := ⟨b, 2, none⟩) hz).trans h2, (hb.cell (p := ⟨b, 3, none⟩) hz).trans h3⟩, by omega⟩
theorem keepAt4 {w w' : World} {b : Nat} {x y z u : Value} (hb : Below w.heap.size w w') (h : C4 w b x y z u) : C4 w' b x y z u := h.keep hb
theorem C4.alloc {w : World} {b : Nat} {x y z u : Value} (h : C4 w b x y z u) (o : Obj) : C4 (w.alloc o) b x y z u := h.keep ((Below.refl _ _).alloc (Nat.le_refl _) o)

end Go.Proofs.YtohmhiodmaahfaaDoor
