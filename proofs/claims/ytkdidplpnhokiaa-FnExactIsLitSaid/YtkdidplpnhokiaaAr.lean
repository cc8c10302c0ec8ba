/- Rows gathered: a slice of the call's own whose rows lie elsewhere. -/
import Derived.Test.YtkdidplpnhokiaaApp2
import Derived.Test.YtkdidplpnhokiaaWiI
import Derived.Lib.AppendZeros
namespace Go.Proofs.Ytkdidplpnhokiaa
open Go.RowKit
set_option linter.unusedVariables false

/-- an append of an empty slice, wherever it lies -/
theorem run_append_zero {P : Program} {w : World} (base : Nat) (t ty e : TypeId) (i : TypeInfo) (size : Nat) (ht : P.underlying t = some (.slice e)) (hi : P.info? e = some i)
    (v : Value) (n : Nat) (xs : List Value) (hown : w.ownsRow base e size v n xs) (a : Option Addr) (c : Nat) :
    (Builtin.append_ #[t, t] ty #[v, .slice a 0 c]).run P w = .ok v w := by
  rcases hown.2 with ⟨rfl, rfl⟩ | ⟨g, cap, cur, rfl, _, _, hnc, _⟩
  · cases a <;> simp [Builtin.append_, run_underlying ht, sizeOf, typeInfo, hi, Builtin.lenOf, Builtin.firstCells, loadCells, loadCellsFrom]
  · cases a <;> simp [Builtin.append_, run_underlying ht, sizeOf, typeInfo, hi, Builtin.lenOf, Builtin.firstCells, hnc, storeCells, loadCells, loadCellsFrom]

/-- the value v is a row r of two numbers, in no block of X -/
def R2 (w : World) (X : Option Nat) (v : Value) (r : List Int) : Prop :=
  r.length = 2 ∧ ∃ b off c, v = .slice (some ⟨b, off, none⟩) 2 c ∧ X ≠ some b ∧ w.cell? ⟨b, off, none⟩ = some (.int .i64 (r.getD 0 0)) ∧ w.cell? ⟨b, off + 1, none⟩ = some (.int .i64 (r.getD 1 0))
theorem R2.of {w : World} {X : Option Nat} {v : Value} {r : List Int} (h : Reads w v r) (h2 : r.length = 2) (hX : ∀ b, X = some b → w.heap.size ≤ b) : R2 w X v r := by
  obtain ⟨a, c, rfl, _, h⟩ := h
  rcases h with h | ⟨b, off, rfl, h⟩
  · rw [h] at h2; cases h2
  · have c0 := h 0 (by omega)
    have c1 := h 1 (by omega)
    rw [Nat.add_zero] at c0
    refine ⟨h2, b, off, c, by rw [h2], fun e => ?_, c0, c1⟩
    have h3 := hX b e
    have h4 : b < w.heap.size := World.block_lt_of_cell? _ _ c0
    omega
theorem R2.reads {w : World} {X : Option Nat} {v : Value} {r : List Int} (h : R2 w X v r) : Reads w v r := by
  obtain ⟨h2, b, off, c, rfl, _, c0, c1⟩ := h
  refine ⟨_, c, by rw [h2], by rw [h2]; unfold maxLen; omega, .inr ⟨b, off, rfl, fun i hi => ?_⟩⟩
  have hi' : i = 0 ∨ i = 1 := by omega
  rcases hi' with rfl | rfl
  · exact c0
  · exact c1
theorem R2.keep {w w' : World} {X : Option Nat} {v : Value} {r : List Int} (h : R2 w X v r) (hb : Below w.heap.size w w') : R2 w' X v r := by
  obtain ⟨h2, b, off, c, e, hX, c0, c1⟩ := h
  exact ⟨h2, b, off, c, e, hX, cell_later hb c0, cell_later hb c1⟩
theorem R2.grown {w w' : World} {X X' : Option Nat} {v : Value} {r : List Int} (h : R2 w X v r) (hg : w.grownBy w' X) (hat : X' = X ∨ X' = some w.heap.size) : R2 w' X' v r := by
  obtain ⟨h2, b, off, c, e, hX, c0, c1⟩ := h
  have hlt : b < w.heap.size := World.block_lt_of_cell? _ _ c0
  refine ⟨h2, b, off, c, e, ?_, ?_, ?_⟩
  · rcases hat with rfl | rfl
    · exact hX
    · intro e2; injection e2 with e2; omega
  · rw [← c0]; exact World.cell?_of_block (w := w) (hg.block b hlt (Ne.symm hX))
  · rw [← c1]; exact World.cell?_of_block (w := w) (hg.block b hlt (Ne.symm hX))
/-- rows that are told by a list of values -/
def Rws (w : World) (X : Option Nat) (vs : List Value) (L : List (List Int)) : Prop := vs.length = L.length ∧ ∀ i, i < L.length → ∃ v, vs[i]? = some v ∧ R2 w X v (L.getD i [])
theorem Rws.keep {w w' : World} {X : Option Nat} {vs : List Value} {L : List (List Int)} (h : Rws w X vs L) (hb : Below w.heap.size w w') : Rws w' X vs L :=
  ⟨h.1, fun i hi => by obtain ⟨v, e, r⟩ := h.2 i hi; exact ⟨v, e, r.keep hb⟩⟩
theorem Rws.nil (w : World) (X : Option Nat) : Rws w X [] [] := ⟨rfl, fun i hi => by simp at hi⟩
theorem Rws.append {w : World} {X : Option Nat} {vs ns : List Value} {L M : List (List Int)} (h : Rws w X vs L) (h' : Rws w X ns M) : Rws w X (vs ++ ns) (L ++ M) := by
  refine ⟨by rw [List.length_append, List.length_append, h.1, h'.1], fun i hi => ?_⟩
  rw [List.length_append] at hi
  by_cases hl : i < L.length
  · obtain ⟨v, e, r⟩ := h.2 i hl
    refine ⟨v, by rw [List.getElem?_append_left (by rw [h.1]; exact hl)]; exact e, ?_⟩
    simpa [List.getD_eq_getElem?_getD, List.getElem?_append_left hl] using r
  · obtain ⟨v, e, r⟩ := h'.2 (i - L.length) (by omega)
    refine ⟨v, by rw [List.getElem?_append_right (by rw [h.1]; omega), h.1]; exact e, ?_⟩
    simpa [List.getD_eq_getElem?_getD, List.getElem?_append_right (show L.length ≤ i by omega)] using r
theorem Rws.grown {w w' : World} {X X' : Option Nat} {vs : List Value} {L : List (List Int)} (h : Rws w X vs L) (hg : w.grownBy w' X) (hat : X' = X ∨ X' = some w.heap.size) : Rws w' X' vs L :=
  ⟨h.1, fun i hi => by obtain ⟨v, e, r⟩ := h.2 i hi; exact ⟨v, e, r.grown hg hat⟩⟩
theorem Rws.one {w : World} {X : Option Nat} {vs : List Value} {L : List (List Int)} (h : Rws w X vs L) : ∀ u ∈ vs, u.oneCell' = true := by
  intro u hu
  obtain ⟨i, hi, e⟩ := List.getElem_of_mem hu
  obtain ⟨v, e2, r⟩ := h.2 i (by rw [← h.1]; exact hi)
  rw [List.getElem?_eq_getElem hi, e] at e2
  injection e2 with e2
  subst e2
  obtain ⟨_, b, off, c, rfl, _⟩ := r
  rfl
/-- rows of a slice that came in, as an append of all of them wants them -/
theorem Reads2.rws {w : World} {a : Option Addr} {n c : Nat} {L : List (List Int)} (h : Reads2 w (.slice a n c) L) (h2 : ∀ i, i < L.length → (L.getD i []).length = 2) (X : Option Nat) (hX : ∀ b, X = some b → w.heap.size ≤ b) (h0 : 0 < L.length) :
    ∃ b off vs, a = some ⟨b, off, none⟩ ∧ Rws w X vs L ∧ ∀ j u, vs[j]? = some u → w.cell? ((⟨b, off, none⟩ : Addr).add j) = some u := by
  obtain ⟨a', ca', e, hm, h⟩ := h
  simp only [Value.slice.injEq] at e
  obtain ⟨rfl, rfl, rfl⟩ := e
  rcases h with rfl | ⟨b, off, rfl, h⟩
  · simp at h0
  · have hex : ∀ i, ∃ v, i < L.length → w.cell? ⟨b, off + i, none⟩ = some v ∧ R2 w X v (L.getD i []) := fun i => by
      by_cases hi : i < L.length
      · obtain ⟨u, hu, hr⟩ := h i hi
        exact ⟨u, fun _ => ⟨hu, R2.of hr (h2 i hi) hX⟩⟩
      · exact ⟨.bool true, fun h => absurd h hi⟩
    refine ⟨b, off, (List.range L.length).map (fun i => Classical.choose (hex i)), rfl, ⟨by simp, fun i hi => ⟨Classical.choose (hex i), by simp [hi], (Classical.choose_spec (hex i) hi).2⟩⟩, fun j u hj => ?_⟩
    have hj' : j < L.length := by
      obtain ⟨h1, _⟩ := List.getElem?_eq_some_iff.1 hj
      simpa using h1
    have ea : (⟨b, off, none⟩ : Addr).add j = ⟨b, off + j, none⟩ := by
      unfold Addr.add; split
      · rename_i h; subst h; rfl
      · rfl
    rw [ea, (Classical.choose_spec (hex j) hj').1]
    simpa [hj'] using hj
/-- a slice of the call's own whose rows lie elsewhere -/
def Ar (w : World) (B : Nat) (u : Value) (L : List (List Int)) : Prop := ∃ vs, w.ownsRow B 22 1 u L.length vs ∧ Rws w u.ownBlock vs L
theorem Ar.keep {w w' : World} {B : Nat} {u : Value} {L : List (List Int)} (h : Ar w B u L) (hb : Below w.heap.size w w') : Ar w' B u L := by
  obtain ⟨vs, h1, h2⟩ := h
  exact ⟨vs, rowLater h1 hb, h2.keep hb⟩
theorem Ar.reads {w : World} {B : Nat} {u : Value} {L : List (List Int)} (h : Ar w B u L) : Reads2 w u L := by
  obtain ⟨vs, h1, h2⟩ := h
  have h1' := h1
  rcases h1.2 with ⟨rfl, hn⟩ | ⟨g, cap, cur, rfl, hb, hg, hc, hm, hs, ht⟩
  · have e : L = [] := List.length_eq_zero_iff.1 hn
    subst e
    exact ⟨none, 0, rfl, by simp, .inl rfl⟩
  · refine ⟨_, cap, rfl, by omega, .inr ⟨g, 0, rfl, fun i hi => ?_⟩⟩
    obtain ⟨v, e, r⟩ := h2.2 i hi
    exact ⟨v, by rw [Nat.zero_add, h1'.cellAt i (by omega)]; exact e, r.reads⟩
theorem Ar.more {w w' : World} {B : Nat} {u u' : Value} {vs ns : List Value} {L M : List (List Int)} (h1 : Rws w u.ownBlock vs L) (h2 : Rws w u.ownBlock ns M)
    (ho : w'.ownsRow B 22 1 u' (L.length + M.length) (vs ++ ns)) (hg : w.grownBy w' u.ownBlock) (hat : u'.ownBlock = u.ownBlock ∨ u'.ownBlock = some w.heap.size) : Ar w' B u' (L ++ M) :=
  ⟨vs ++ ns, by rw [List.length_append]; exact ho, (h1.append h2).grown hg hat⟩

end Go.Proofs.Ytkdidplpnhokiaa
