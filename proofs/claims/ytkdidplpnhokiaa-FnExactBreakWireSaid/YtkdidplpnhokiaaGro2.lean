/- Slices of slices that the call makes, one row after the other. -/
import Derived.Test.YtkdidplpnhokiaaOwn2
import Derived.Maps.AppendAt
namespace Go.Proofs.Ytkdidplpnhokiaa
open Go.RowKit
set_option linter.unusedVariables false

theorem own2Nil (w : World) (B C : Nat) : Own2 w B C (.slice none 0 0) [] :=
  ⟨fun _ => .slice none 0 0, World.ownsRow_nil _ _ _ _, fun k e => by simp [Value.ownBlock] at e, fun i hi => by simp at hi⟩
theorem own2Made (w : World) (B : Nat) (hB : B ≤ w.heap.size) : Own2 (w.alloc (.cells #[] 22)) B (w.alloc (.cells #[] 22)).heap.size (.slice (some ⟨w.heap.size, 0, none⟩) 0 0) [] := by
  have h := World.ownsRow_made (base := B) (e := 22) (size := 1) w #[] 0 hB (by simp) rfl
  exact ⟨fun _ => .slice none 0 0, h, fun k e => (World.ownsRow.lt h k e).2, fun i hi => by simp at hi⟩
theorem Own2.from {w : World} {B C : Nat} {v : Value} {xss : List (List Int)} (h : Own2 w B C v xss) : ∀ k, v.ownBlock = some k → B ≤ k := by
  obtain ⟨V, h1, _, _⟩ := h
  exact fun k e => (World.ownsRow.lt h1 k e).1
theorem Own2.later {w w' : World} {B : Nat} {v : Value} {xss : List (List Int)} (h : Own2 w B w.heap.size v xss) (hb : Below w.heap.size w w') : Own2 w' B w'.heap.size v xss := (h.keep hb).mono (Nat.le_refl _) hb.size
/-- the rows of a slice of slices, as the append's law wants them -/
theorem Own2.asRows {w w' : World} {B C : Nat} {v : Value} {xss : List (List Int)} (h : Own2 w B C v xss) (hb : Below w.heap.size w w') (o : Obj) : (w'.alloc o).ownsRow B 22 1 v xss.length ((List.range xss.length).map (Classical.choose h)) :=
  World.ownsRow.alloc (rowLater (Classical.choose_spec h).1 hb) o
/-- one row more -/
theorem Own2.more {w w1 w2 : World} {B : Nat} {v u v' : Value} {xss : List (List Int)} {c : List Int} (o : Obj) (h : Own2 w B w.heap.size v xss) (hB : B ≤ w.heap.size) (hb : Below w.heap.size w w1) (hu : Owns w1 w.heap.size u c)
    (ho : w2.ownsRow B 22 1 v' (xss.length + 1) ((List.range xss.length).map (Classical.choose h) ++ [u])) (hg : (w1.alloc o).grownBy w2 v.ownBlock) (hat : v'.ownBlock = v.ownBlock ∨ v'.ownBlock = some (w1.alloc o).heap.size) :
    Own2 w2 B w2.heap.size v' (xss ++ [c]) := by
  obtain ⟨h1, h2, h3⟩ := Classical.choose_spec h
  generalize Classical.choose h = V at *
  have hz := hb.size
  have hz1 : (w1.alloc o).heap.size = w1.heap.size + 1 := by simp
  rw [hz1] at hat
  have key : ∀ {x : Value} {ys : List Int} {base : Nat}, Owns (w1.alloc o) base x ys → (∀ k, x.ownBlock = some k → v.ownBlock ≠ some k) → Owns w2 base x ys := fun hx hk =>
    World.ownsRow.kept hx hg (by
      rename_i x ys base
      rcases e : x.ownBlock with _ | k
      · exact .inl rfl
      · right; intro e2; exact hk k e e2.symm)
  have hgz := hg.size
  rw [hz1] at hgz
  refine ⟨fun i => if i < xss.length then V i else u, ?_, fun k e => (World.ownsRow.lt ho k e).2, fun i hi => ?_⟩
  · have e : (List.range (xss ++ [c]).length).map (fun i => if i < xss.length then V i else u) = (List.range xss.length).map V ++ [u] := by
      rw [List.length_append, List.length_singleton, List.range_succ, List.map_append]
      congr 1
      · apply List.map_congr_left
        intro i hi
        rw [if_pos (by simpa using hi)]
      · simp
    rw [e, List.length_append, List.length_singleton]
    exact ho
  · rw [List.length_append, List.length_singleton] at hi
    by_cases hlt : i < xss.length
    · obtain ⟨a, bb⟩ := h3 i hlt
      have e : (xss ++ [c]).getD i [] = xss.getD i [] := by simp [List.getD_eq_getElem?_getD, List.getElem?_append_left hlt]
      simp only [if_pos hlt, e]
      refine ⟨key (World.ownsRow.alloc (a.keep hb) o) fun k e => (bb k e).2.1, fun k e => ?_⟩
      have hk := bb k e
      have hk2 := (World.ownsRow.lt a k e).2
      refine ⟨by omega, fun e2 => ?_, fun j hj => by rw [if_pos (by omega)]; exact hk.2.2 j hj⟩
      rcases hat with hat | hat
      · exact hk.2.1 (by rw [← hat]; exact e2)
      · rw [hat] at e2
        have : w1.heap.size + 1 = k := by simpa using e2
        omega
    · have e : i = xss.length := by omega
      subst e
      have e : (xss ++ [c]).getD xss.length [] = c := by simp [List.getD_eq_getElem?_getD]
      simp only [if_neg (Nat.lt_irrefl _), e]
      refine ⟨key (World.ownsRow.alloc (hu.mono hB) o) fun k e e2 => ?_, fun k e => ?_⟩
      · have := (World.ownsRow.lt hu k e).1
        have := h2 k e2
        omega
      · have a1 := (World.ownsRow.lt hu k e).1
        have a2 := (World.ownsRow.lt hu k e).2
        refine ⟨by omega, fun e2 => ?_, fun j hj => ?_⟩
        · rcases hat with hat | hat
          · have := h2 k (by rw [← hat]; exact e2)
            omega
          · rw [hat] at e2
            have : w1.heap.size + 1 = k := by simpa using e2
            omega
        · rw [if_pos hj]
          intro e2
          have := ((h3 j hj).2 k e2).1
          omega
theorem ownsTwo (w : World) (x y : Int) (base : Nat) (hb : base ≤ w.heap.size) : Owns (w.alloc (.cells #[.int .i64 x, .int .i64 y] 2)) base (.slice (some ⟨w.heap.size, 0, none⟩) 2 2) [x, y] :=
  ⟨by simp, .inr ⟨w.heap.size, 2, #[.int .i64 x, .int .i64 y], rfl, hb, heap_alloc_new w _, Nat.le_refl _, by simp [maxLen], by simp, by simp⟩⟩

theorem ownsThree (w : World) (x y z : Int) (base : Nat) (hb : base ≤ w.heap.size) : Owns (w.alloc (.cells #[.int .i64 x, .int .i64 y, .int .i64 z] 2)) base (.slice (some ⟨w.heap.size, 0, none⟩) 3 3) [x, y, z] :=
  ⟨by simp, .inr ⟨w.heap.size, 3, #[.int .i64 x, .int .i64 y, .int .i64 z], rfl, hb, heap_alloc_new w _, Nat.le_refl _, by simp [maxLen], by simp, by simp⟩⟩

/-- the rows are short -/
theorem sumLen_le {L : List (List Int)} {c : Nat} (h : ∀ r ∈ L, r.length ≤ c) (k : Nat) (hk : k ≤ L.length) : sumLen L k ≤ c * k := by
  induction k with
  | zero => exact Nat.le_refl _
  | succ k ih =>
    have e : (L.getD k []).length ≤ c := h _ (by simp [List.getD_eq_getElem?_getD, show k < L.length by omega])
    simp only [sumLen]
    have := ih (by omega)
    rw [Nat.mul_succ]; omega
theorem short {L : List (List Int)} {c : Nat} (h : ∀ r ∈ L, r.length ≤ c) (hc : c ≤ 20) (h1 : L.length ≤ 1000) : L.length ≤ 100000 ∧ L.length + sumLen L L.length ≤ 1000000 ∧ ∀ i, i < L.length → (L.getD i []).length ≤ 1048576 := by
  have h2 := sumLen_le h L.length (Nat.le_refl _)
  have h3 : c * L.length ≤ 20 * 1000 := Nat.mul_le_mul hc h1
  refine ⟨by omega, by omega, fun i hi => ?_⟩
  have e : (L.getD i []).length ≤ c := h _ (by simp [List.getD_eq_getElem?_getD, hi])
  omega

end Go.Proofs.Ytkdidplpnhokiaa
