/- Slices of slices that grow: a row more, and a number more in one of the rows. -/
import Derived.Test.YtapcblibokkhcaaDoorOwn2
namespace Go.Proofs.YtapcblibokkhcaaDoor
open Go.RowKit
set_option linter.unusedVariables false

/-- Own2 with the rows' slices named -/
def Own2V (w : World) (B C : Nat) (v : Value) (V : Nat → Value) (xss : List (List Int)) : Prop :=
  w.ownsRow B 31 1 v xss.length ((List.range xss.length).map V) ∧ (∀ k, v.ownBlock = some k → k < C) ∧
    ∀ i, i < xss.length → Owns w B (V i) (xss.getD i []) ∧ ∀ k, (V i).ownBlock = some k → k < C ∧ v.ownBlock ≠ some k ∧ ∀ j, j < i → (V j).ownBlock ≠ some k
theorem Own2.name {w : World} {B C : Nat} {v : Value} {xss : List (List Int)} (h : Own2 w B C v xss) : ∃ V, Own2V w B C v V xss := h
theorem Own2V.back {w : World} {B C : Nat} {v : Value} {V : Nat → Value} {xss : List (List Int)} (h : Own2V w B C v V xss) : Own2 w B C v xss := ⟨V, h⟩
theorem getD_snocR_lt {l : List (List Int)} {x : List Int} {i : Nat} (h : i < l.length) : (l ++ [x]).getD i [] = l.getD i [] := by
  simp only [List.getD_eq_getElem?_getD]; rw [List.getElem?_append_left h]
theorem getD_snocR_eq {l : List (List Int)} {x : List Int} : (l ++ [x]).getD l.length [] = x := by
  simp [List.getD_eq_getElem?_getD]

theorem Own2V.push {w w1 : World} {B C : Nat} {v v' u : Value} {V : Nat → Value} {xss : List (List Int)} {xs : List Int} (h : Own2V w B C v V xss)
    (hC : C ≤ w.heap.size) (hu : Owns w B u xs) (hub : ∀ k, u.ownBlock = some k → C ≤ k)
    (hg : w.grownBy w1 v.ownBlock) (hat : v'.ownBlock = v.ownBlock ∨ ∃ g, v'.ownBlock = some g ∧ w.heap.size ≤ g)
    (ho : w1.ownsRow B 31 1 v' (xss.length + 1) ((List.range xss.length).map V ++ [u])) : Own2 w1 B w1.heap.size v' (xss ++ [xs]) := by
  obtain ⟨h1, h2, h3⟩ := h
  have hsz := hg.size
  have hul := World.ownsRow.lt hu
  have hol := World.ownsRow.lt ho
  have e : ∀ i, i < xss.length → (fun i => if i < xss.length then V i else u) i = V i := fun i hi => if_pos hi
  refine ⟨fun i => if i < xss.length then V i else u, ?_, fun k hk => (hol k hk).2, fun i hi => ?_⟩
  · have hm : (List.range (xss ++ [xs]).length).map (fun i => if i < xss.length then V i else u) = (List.range xss.length).map V ++ [u] := by
      rw [List.length_append, List.length_singleton, List.range_succ, List.map_append, List.map_singleton, if_neg (Nat.lt_irrefl _)]
      congr 1
      exact List.map_congr_left fun i hi => e i (List.mem_range.1 hi)
    rw [hm, List.length_append, List.length_singleton]; exact ho
  · have hv' : ∀ k, k < w.heap.size → v.ownBlock ≠ some k → v'.ownBlock ≠ some k := by
      intro k hk hne e'
      rcases hat with h | ⟨g, h, hge⟩
      · rw [h] at e'; exact hne e'
      · rw [h] at e'
        have : g = k := by simpa using e'
        omega
    by_cases hlt : i < xss.length
    · rw [getD_snocR_lt hlt]
      have ei := e i hlt
      simp only at ei ⊢
      rw [if_pos hlt]
      obtain ⟨a, b⟩ := h3 i hlt
      have hal := World.ownsRow.lt a
      refine ⟨World.ownsRow.kept a hg ?_, fun k hk => ⟨by have := (hal k hk).2; omega, hv' k (hal k hk).2 (b k hk).2.1, fun j hj => ?_⟩⟩
      · cases hb : (V i).ownBlock with
        | none => exact .inl rfl
        | some k => exact .inr fun e' => (b k hb).2.1 e'.symm
      · rw [if_pos (show j < xss.length by omega)]
        exact (b k hk).2.2 j hj
    · have ei : i = xss.length := by simp at hi; omega
      subst ei
      rw [getD_snocR_eq]
      simp only [Nat.lt_irrefl, if_false]
      refine ⟨World.ownsRow.kept hu hg ?_, fun k hk => ⟨by have := (hul k hk).2; omega, hv' k (hul k hk).2 (fun e' => by have := h2 k e'; have := hub k hk; omega), fun j hj => ?_⟩⟩
      · cases hb : u.ownBlock with
        | none => exact .inl rfl
        | some k => exact .inr fun e' => by have := h2 k e'.symm; have := hub k hb; omega
      · rw [if_pos hj]
        intro e'
        have := (( h3 j hj).2 k e').1
        have := hub k hk
        omega

theorem Own2V.more {w w1 : World} {B C g cap a : Nat} {u : Value} {V : Nat → Value} {xss : List (List Int)} {x : Int} (h : Own2V w B C (.slice (some ⟨g, 0, none⟩) xss.length cap) V xss) (ha : a < xss.length)
    (hC : C ≤ w.heap.size)
    (hg : w.grownBy w1 (V a).ownBlock) (hat : u.ownBlock = (V a).ownBlock ∨ ∃ q, u.ownBlock = some q ∧ w.heap.size ≤ q)
    (ho : Owns w1 B u (xss.getD a [] ++ [x])) : Own2 (w1.setCell ⟨g, a, none⟩ u) B (w1.setCell ⟨g, a, none⟩ u).heap.size (.slice (some ⟨g, 0, none⟩) xss.length cap) (xss.set a (xss.getD a [] ++ [x])) := by
  obtain ⟨h1, h2, h3⟩ := h
  have hsz := hg.size
  have hgC := h2 g rfl
  have hga : (V a).ownBlock ≠ some g := fun e => ((h3 a ha).2 g e).2.1 rfl
  have h1' : w1.ownsRow B 31 1 (.slice (some ⟨g, 0, none⟩) xss.length cap) xss.length ((List.range xss.length).map V) := h1.kept hg (.inr fun e => hga e.symm)
  have hst := h1'.stored a u
  have hsz2 : (w1.setCell ⟨g, a, none⟩ u).heap.size = w1.heap.size := by rw [World.size_setCell]
  have hug : u.ownBlock ≠ some g := by
    intro e
    rcases hat with h | ⟨q, h, hq⟩
    · rw [h] at e; exact hga e
    · rw [h] at e
      have : q = g := by simpa using e
      omega
  have other : ∀ {y : Value} {ys : List Int}, Owns w1 B y ys → y.ownBlock ≠ some g → Owns (w1.setCell ⟨g, a, none⟩ u) B y ys := by
    intro y ys hy hne
    exact World.ownsRow.kept hy hst.2 (.inr hne)
  refine ⟨fun i => if i = a then u else V i, ?_, fun k hk => by
      have hk2 : g = k := by simpa [Value.ownBlock] using hk
      rw [hsz2]; omega, fun i hi => ?_⟩
  · have e : ((List.range xss.length).map V).set a u = (List.range xss.length).map (fun i => if i = a then u else V i) := by
      apply List.ext_getElem
      · simp
      · intro i h1 h2
        simp only [List.getElem_set, List.getElem_map, List.getElem_range]
        by_cases e : i = a
        · subst e; simp
        · simp [e, Ne.symm e]
    rw [List.length_set, ← e]; exact hst.1
  · rw [List.length_set] at hi
    have hsep : ∀ k, (V i).ownBlock = some k → i ≠ a → u.ownBlock ≠ some k := by
      intro k hk hne e'
      have hkl := (World.ownsRow.lt (h3 i hi).1 k hk).2
      rcases hat with h | ⟨q, h, hq⟩
      · rw [h] at e'
        rcases Nat.lt_or_gt_of_ne hne with h' | h'
        · exact ((h3 a ha).2 k e').2.2 i h' hk
        · exact ((h3 i hi).2 k hk).2.2 a h' e'
      · rw [h] at e'
        have : q = k := by simpa using e'
        omega
    by_cases hia : i = a
    · subst hia
      have e3 : (xss.set i (xss.getD i [] ++ [x])).getD i [] = xss.getD i [] ++ [x] := by
        rw [List.getD_eq_getElem?_getD, List.getElem?_set, if_pos rfl, if_pos hi]; rfl
      rw [e3]
      simp only [if_true]
      refine ⟨other ho hug, fun k hk => ⟨by rw [hsz2]; exact (World.ownsRow.lt ho k hk).2, fun e => hug (by rw [hk]; simpa [Value.ownBlock] using e.symm), fun j hj => ?_⟩⟩
      rw [if_neg (show ¬ j = i by omega)]
      intro e'
      have hkl := (World.ownsRow.lt (h3 j (by omega)).1 k e').2
      rcases hat with h | ⟨q, h, hq⟩
      · rw [h] at hk; exact ((h3 i hi).2 k hk).2.2 j hj e'
      · rw [h] at hk
        have : q = k := by simpa using hk
        omega
    · have e3 : (xss.set a (xss.getD a [] ++ [x])).getD i [] = xss.getD i [] := by
        simp only [List.getD_eq_getElem?_getD, List.getElem?_set, if_neg (Ne.symm hia)]
      rw [e3]
      simp only [if_neg hia]
      obtain ⟨p, q⟩ := h3 i hi
      refine ⟨other (World.ownsRow.kept p hg ?_) (fun e => (q g e).2.1 rfl), fun k hk => ⟨by rw [hsz2]; have := (World.ownsRow.lt p k hk).2; omega, (q k hk).2.1, fun j hj => ?_⟩⟩
      · cases hb : (V i).ownBlock with
        | none => exact .inl rfl
        | some k => 
          refine .inr fun e' => ?_
          rcases Nat.lt_or_gt_of_ne hia with h' | h'
          · exact ((h3 a ha).2 k e'.symm).2.2 i h' hb
          · exact (q k hb).2.2 a h' e'.symm
      · by_cases hja : j = a
        · rw [if_pos hja]; exact hsep k hk hia
        · rw [if_neg hja]; exact (q k hk).2.2 j hj

end Go.Proofs.YtapcblibokkhcaaDoor
