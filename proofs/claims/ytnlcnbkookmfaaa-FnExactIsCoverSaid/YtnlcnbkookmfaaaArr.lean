/- An array of eight numbers in a block of its own. -/
import Derived.Test.YtnlcnbkookmfaaaC3
namespace Go.Proofs.Ytnlcnbkookmfaaa
open Go.RowKit
set_option linter.unusedVariables false

/-- the value of an array of eight numbers -/
def arrV (A : Nat → Int) : Value := .agg #[.int .i64 (A 0), .int .i64 (A 1), .int .i64 (A 2), .int .i64 (A 3), .int .i64 (A 4), .int .i64 (A 5), .int .i64 (A 6), .int .i64 (A 7)]
def arrC (A : Nat → Int) : Array Value := #[.int .i64 (A 0), .int .i64 (A 1), .int .i64 (A 2), .int .i64 (A 3), .int .i64 (A 4), .int .i64 (A 5), .int .i64 (A 6), .int .i64 (A 7)]
theorem arrC_get (A : Nat → Int) {i : Nat} (h : i < 8) : (arrC A)[i]? = some (.int .i64 (A i)) := by
  have : i = 0 ∨ i = 1 ∨ i = 2 ∨ i = 3 ∨ i = 4 ∨ i = 5 ∨ i = 6 ∨ i = 7 := by omega
  rcases this with rfl | rfl | rfl | rfl | rfl | rfl | rfl | rfl <;> rfl
/-- the block g holds the array, and may be written -/
def Arr8 (w : World) (g : Nat) (A : Nat → Int) : Prop := (∀ i, i < 8 → w.cell? ⟨g, i, none⟩ = some (.int .i64 (A i)) ∧ w.frozen? ⟨g, i, none⟩ = false) ∧ g < w.heap.size
theorem Arr8.turn {w w' : World} {g : Nat} {A : Nat → Int} (h : Arr8 w g A) (e : w'.heap[g]? = w.heap[g]?) (hs : w.heap.size ≤ w'.heap.size) : Arr8 w' g A :=
  ⟨fun i hi => ⟨(World.cell?_of_block (w := w) e).trans (h.1 i hi).1, (World.frozen?_of_block (w := w) e).trans (h.1 i hi).2⟩, by have := h.2; omega⟩
theorem Arr8.keep {w w' : World} {g : Nat} {A : Nat → Int} (h : Arr8 w g A) (hb : Below w.heap.size w w') : Arr8 w' g A := h.turn (hb.block g h.2) hb.size
theorem Arr8.alloc {w : World} {g : Nat} {A : Nat → Int} (h : Arr8 w g A) (o : Obj) : Arr8 (w.alloc o) g A := h.keep ((Below.refl _ _).alloc (Nat.le_refl _) o)
theorem Arr8.drew {w : World} {g : Nat} {A : Nat → Int} (h : Arr8 w g A) : Arr8 w.drew g A := h
theorem Arr8.drewN {w : World} {g : Nat} {A : Nat → Int} (h : Arr8 w g A) (n : Nat) : Arr8 (w.drewN n) g A := h
theorem Arr8.set {w : World} {g : Nat} {A : Nat → Int} (h : Arr8 w g A) (b i : Nat) (v : Value) (hg : g ≠ b) : Arr8 (w.setCell ⟨b, i, none⟩ v) g A :=
  h.turn (Below.heap_setCell w ⟨b, i, none⟩ v g hg) (by rw [World.size_setCell]; exact Nat.le_refl _)
theorem Arr8.grown {w w1 : World} {g : Nat} {A : Nat → Int} {row : Option Nat} (h : Arr8 w g A) (hg : w.grownBy w1 row) (hr : row ≠ some g) : Arr8 w1 g A := h.turn (hg.block g h.2 (Ne.symm hr)) hg.size
theorem Arr8.here (w : World) (A : Nat → Int) (t : TypeId) : Arr8 (w.alloc (.cells (arrC A) t)) w.heap.size A :=
  ⟨fun i hi => ⟨by rw [World.cell?_alloc_at _ _ _ _ rfl]; exact arrC_get A hi, World.frozen?_alloc_at _ _ _ _ rfl⟩, by simp⟩
theorem Arr8.store {w : World} {g k : Nat} {A : Nat → Int} (h : Arr8 w g A) (hk : k < 8) (x : Int) : Arr8 (w.setCell ⟨g, k, none⟩ (.int .i64 x)) g (fun i => if i = k then x else A i) := by
  refine ⟨fun i hi => ⟨?_, by rw [World.frozen?_setCell]; exact (h.1 i hi).2⟩, by rw [World.size_setCell]; exact h.2⟩
  by_cases e : i = k
  · subst e
    simp only [if_true]
    exact World.cell?_setCell_same w ⟨g, i, none⟩ _ (h.1 i hi).1
  · simp only [if_neg e]
    exact (World.cell?_setCell_other w ⟨g, k, none⟩ ⟨g, i, none⟩ _ (by simp)).trans (h.1 i hi).1
theorem Arr8.congr {w : World} {g : Nat} {A B : Nat → Int} (h : Arr8 w g A) (e : ∀ i, i < 8 → A i = B i) : Arr8 w g B :=
  ⟨fun i hi => by rw [← e i hi]; exact h.1 i hi, h.2⟩
theorem Arr8.cells {w : World} {g : Nat} {A : Nat → Int} (h : Arr8 w g A) :
    w.cell? ⟨g, 0, none⟩ = some (.int .i64 (A 0)) ∧ w.cell? ⟨g, 1, none⟩ = some (.int .i64 (A 1)) ∧ w.cell? ⟨g, 2, none⟩ = some (.int .i64 (A 2)) ∧ w.cell? ⟨g, 3, none⟩ = some (.int .i64 (A 3)) ∧
    w.cell? ⟨g, 4, none⟩ = some (.int .i64 (A 4)) ∧ w.cell? ⟨g, 5, none⟩ = some (.int .i64 (A 5)) ∧ w.cell? ⟨g, 6, none⟩ = some (.int .i64 (A 6)) ∧ w.cell? ⟨g, 7, none⟩ = some (.int .i64 (A 7)) :=
  ⟨(h.1 0 (by decide)).1, (h.1 1 (by decide)).1, (h.1 2 (by decide)).1, (h.1 3 (by decide)).1, (h.1 4 (by decide)).1, (h.1 5 (by decide)).1, (h.1 6 (by decide)).1, (h.1 7 (by decide)).1⟩
theorem arr8At {w w' : World} {g : Nat} {A : Nat → Int} (hb : Below w.heap.size w w') (h : Arr8 w g A) : Arr8 w' g A := h.keep hb

end Go.Proofs.Ytnlcnbkookmfaaa
