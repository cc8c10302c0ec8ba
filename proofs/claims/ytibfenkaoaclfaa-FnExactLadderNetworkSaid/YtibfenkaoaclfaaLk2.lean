/- Small laws for the walks of laws with two networks (tools/lawk.py). -/
import Derived.Test.YtibfenkaoaclfaaLk
import Derived.Test.YtibfenkaoaclfaaSbM
namespace Go.Proofs.Ytibfenkaoaclfaa
open Go.RowKit
set_option linter.unusedVariables false

theorem Own2.setCellHi {w : World} {B C : Nat} {v : Value} {xss : List (List Int)} (h : Own2 w B C v xss) (p : Addr) (x : Value) (hp : C ≤ p.block) : Own2 (w.setCell p x) B C v xss :=
  h.same fun k _ h2 _ => Below.heap_setCell _ _ _ _ (by omega)
/-- a list of rows of four is not where a box of a number and no slice lies: the box may be filled -/
theorem Reads2.setBox {w : World} {g : Nat} {v : Value} {L : List (List Int)} (h : Reads2 w v L) (h4 : ∀ c ∈ L, c.length = 4) (hk : C2 w g (.int .i64 0) (.slice none 0 0)) (x y : Value) :
    Reads2 ((w.setCell ⟨g, 0, none⟩ x).setCell ⟨g, 1, none⟩ y) v L := by
  obtain ⟨c0, c1, _, _, _⟩ := hk
  obtain ⟨a, cap, rfl, hm, h⟩ := h
  refine ⟨a, cap, rfl, hm, ?_⟩
  rcases h with h | ⟨b, off, rfl, h⟩
  · exact .inl h
  · refine .inr ⟨b, off, rfl, fun i hi => ?_⟩
    obtain ⟨u, hu, hr⟩ := h i hi
    have hl : (L.getD i []).length = 4 := h4 _ (by simp [List.getD_eq_getElem?_getD, hi])
    have far : ∀ (q : Addr) (z : Value), w.cell? q = some z → q ≠ ⟨g, 0, none⟩ → q ≠ ⟨g, 1, none⟩ → ((w.setCell ⟨g, 0, none⟩ x).setCell ⟨g, 1, none⟩ y).cell? q = some z := fun q z hq h0 h1 => by
      rw [World.cell?_setCell_other _ _ _ _ (fun e => h1 (by first | exact e | exact e.symm)), World.cell?_setCell_other _ _ _ _ (fun e => h0 (by first | exact e | exact e.symm))]
      exact hq
    obtain ⟨ra, rc, rfl, hrm, hr⟩ := hr
    refine ⟨_, far _ _ hu ?_ ?_, ?_⟩
    · intro e
      rw [e, c0] at hu
      cases hu
    · intro e
      rw [e, c1] at hu
      simp only [Option.some.injEq, Value.slice.injEq] at hu
      omega
    · refine ⟨ra, rc, rfl, hrm, ?_⟩
      rcases hr with hr | ⟨rb, ro, rfl, hr⟩
      · exact .inl hr
      · refine .inr ⟨rb, ro, rfl, fun j hj => ?_⟩
        have n1 : ∀ j, j < (L.getD i []).length → (⟨rb, ro + j, none⟩ : Addr) ≠ ⟨g, 1, none⟩ := fun j hj e => by
          have := hr j hj
          rw [e, c1] at this
          cases this
        refine far _ _ (hr j hj) (fun e => ?_) (n1 j hj)
        simp only [Addr.mk.injEq, and_true] at e
        refine n1 (j + 1) (by omega) ?_
        simp only [Addr.mk.injEq, and_true]
        exact ⟨e.1, by omega⟩

end Go.Proofs.Ytibfenkaoaclfaa
