/- Slices of slices of the call's own: written over, and looked at again. -/
import Derived.Test.YtglbndobbmgjmaaDoorNetCp
namespace Go.Proofs.YtglbndobbmgjmaaDoor
open Go.RowKit
set_option linter.unusedVariables false

/-- nothing has changed but blocks from B on, below C -/
structure Only (B C : Nat) (w w' : World) : Prop where
  os : w'.os = w.os
  tape : w'.tape = w.tape
  output : w'.output = w.output
  size : w.heap.size ≤ w'.heap.size
  block : ∀ k, k < w.heap.size → (k < B ∨ C ≤ k) → w'.heap[k]? = w.heap[k]?
theorem Only.refl (B C : Nat) (w : World) : Only B C w w := ⟨rfl, rfl, rfl, Nat.le_refl _, fun _ _ _ => rfl⟩
theorem Only.below {B C : Nat} {w w' : World} (h : Only B C w w') (hB : B ≤ w.heap.size) : Below B w w' := ⟨h.os, h.tape, h.output, h.size, fun k hk => h.block k (by omega) (.inl hk)⟩
theorem Only.grown {B C : Nat} {w w1 w' : World} {row : Option Nat} (h : Only B C w w1) (hg : w1.grownBy w' row) (hr : ∀ k, row = some k → B ≤ k ∧ k < C) : Only B C w w' :=
  ⟨hg.os.trans h.os, hg.tape.trans h.tape, hg.output.trans h.output, Nat.le_trans h.size hg.size, fun k hk ho => by
    rw [hg.block k (Nat.lt_of_lt_of_le hk h.size) (fun e => by have := hr k e.symm; omega)]
    exact h.block k hk ho⟩
theorem Only.owns {B C base : Nat} {w w' : World} {v : Value} {xs : List Int} (h : Only B C w w') (ho : Owns w base v xs) (hc : C ≤ base) : Owns w' base v xs :=
  rowSame ho fun k hk e => h.block k (World.ownsRow.lt ho k e).2 (.inr (by omega))
theorem Only.c2 {B C b : Nat} {w w' : World} {x y : Value} (h : Only B C w w') (hc : C2 w b x y) (hb : b < B ∨ C ≤ b) : C2 w' b x y := by
  obtain ⟨h0, h1, f0, f1, hz⟩ := hc
  have e := h.block b hz hb
  have := h.size
  exact ⟨(World.cell?_of_block (w := w) e).trans h0, (World.cell?_of_block (w := w) e).trans h1, (World.frozen?_of_block (w := w) e).trans f0, (World.frozen?_of_block (w := w) e).trans f1, by omega⟩

/-- the first k rows written over by the numbers from q on -/
def rowsK (q : Int) (xss : List (List Int)) (k : Nat) : List (List Int) := (List.range xss.length).map fun i => if i < k then iota (q + sumLen xss i) (xss.getD i []).length else xss.getD i []
theorem rowsK_len (q : Int) (xss : List (List Int)) (k : Nat) : (rowsK q xss k).length = xss.length := by simp [rowsK]
theorem rowsK_get (q : Int) (xss : List (List Int)) (k i : Nat) (h : i < xss.length) : (rowsK q xss k).getD i [] = if i < k then iota (q + sumLen xss i) (xss.getD i []).length else xss.getD i [] := by
  simp [rowsK, List.getD_eq_getElem?_getD, h]
theorem rowsK_zero (q : Int) (xss : List (List Int)) : rowsK q xss 0 = xss := by
  apply List.ext_getElem
  · simp [rowsK]
  · intro i h1 h2
    simp [rowsK, List.getD_eq_getElem?_getD, h2]

theorem Own2.mark {w w' : World} {B C : Nat} {v : Value} {q : Int} {xss : List (List Int)} {k : Nat} {V : Nat → Value} (hk : k < xss.length)
    (h1 : w.ownsRow B 45 1 v xss.length ((List.range xss.length).map V)) (h2 : ∀ k, v.ownBlock = some k → k < C)
    (h3 : ∀ i, i < xss.length → Owns w B (V i) ((rowsK q xss k).getD i []) ∧ ∀ k, (V i).ownBlock = some k → k < C ∧ v.ownBlock ≠ some k ∧ ∀ j, j < i → (V j).ownBlock ≠ some k)
    (hg : w.grownBy w' (V k).ownBlock) (hm : Owns w' B (V k) (iota (q + sumLen xss k) (xss.getD k []).length)) :
    w'.ownsRow B 45 1 v xss.length ((List.range xss.length).map V) ∧
    (∀ i, i < xss.length → Owns w' B (V i) ((rowsK q xss (k + 1)).getD i []) ∧ ∀ k, (V i).ownBlock = some k → k < C ∧ v.ownBlock ≠ some k ∧ ∀ j, j < i → (V j).ownBlock ≠ some k) := by
  refine ⟨World.ownsRow.kept h1 hg ?_, fun i hi => ⟨?_, (h3 i hi).2⟩⟩
  · cases e : v.ownBlock with
    | none => exact .inl rfl
    | some b =>
      right
      cases e2 : (V k).ownBlock with
      | none => simp
      | some b2 =>
        have := ((h3 k hk).2 b2 e2).2.1
        rw [e] at this
        exact this
  · rw [rowsK_get _ _ _ _ hi]
    by_cases e : i = k
    · subst e
      rw [if_pos (by omega)]; exact hm
    · have hq := (h3 i hi).1
      rw [rowsK_get _ _ _ _ hi] at hq
      have e2 : (if i < k + 1 then iota (q + sumLen xss i) (xss.getD i []).length else xss.getD i []) = (if i < k then iota (q + sumLen xss i) (xss.getD i []).length else xss.getD i []) := by
        by_cases hlt : i < k
        · rw [if_pos hlt, if_pos (by omega)]
        · rw [if_neg hlt, if_neg (by omega)]
      rw [e2]
      refine World.ownsRow.kept hq hg ?_
      cases e3 : (V i).ownBlock with
      | none => exact .inl rfl
      | some b =>
        right
        intro e4
        rcases Nat.lt_or_ge i k with hlt | hge
        · exact ((h3 k hk).2 b e4.symm).2.2 i hlt e3
        · exact ((h3 i hi).2 b e3).2.2 k (by omega) e4.symm

end Go.Proofs.YtglbndobbmgjmaaDoor
