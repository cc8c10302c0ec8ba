/- Slices that read as lists and have room for their elements. -/
import Derived.Test.YtnlcnbkookmfaaaLkH
namespace Go.Proofs.Ytnlcnbkookmfaaa
open Go.RowKit
set_option linter.unusedVariables false

/-- the slice v reads as the numbers xs, and its capacity is not below its length -/
def ReadsF (w : World) (v : Value) (xs : List Int) : Prop := Reads w v xs ∧ ∀ a n c, v = .slice a n c → n ≤ c
theorem Owns.readsF {w : World} {lo : Nat} {v : Value} {xs : List Int} (h : Owns w lo v xs) : ReadsF w v xs := by
  refine ⟨h.reads, fun a n c e => ?_⟩
  obtain ⟨_, h2⟩ := h
  rcases h2 with ⟨rfl, hn⟩ | ⟨g, cap, cur, rfl, _, _, hc, _, _, _⟩
  · simp only [Value.slice.injEq] at e; obtain ⟨_, rfl, rfl⟩ := e; exact Nat.le_refl _
  · simp only [Value.slice.injEq] at e; obtain ⟨_, rfl, rfl⟩ := e; omega
theorem In.readsF {w : World} {lo hi : Nat} {v : Value} {xs : List Int} (h : In w lo hi v xs) : ReadsF w v xs := h.1.readsF
theorem OwnH.readsF {w : World} {B C : Nat} {v : Value} {p : Int} {xss yss : List (List Int)} (h : OwnH w B C v p xss yss) : ReadsH w v p xss yss := h.reads
theorem ReadsF.keep {w w' : World} {v : Value} {xs : List Int} (h : ReadsF w v xs) (hb : Below w.heap.size w w') : ReadsF w' v xs := ⟨h.1.keep hb, h.2⟩

end Go.Proofs.Ytnlcnbkookmfaaa
