/- renumbered: the contacts of a network with other numbers for its points. -/
import Derived.Test.YtibfenkaoaclfaaSort
import Derived.Test.YtibfenkaoaclfaaNetB
namespace Go.Proofs.Ytibfenkaoaclfaa
open Go.RowKit
set_option linter.unusedVariables false

/-- the new number of the point q -/
def numZ (zero one next q : Int) : Int := if q = 0 then zero else if q = 1 then one else next + q - 2
/-- what lies at the place q of the numbers when those below k are laid -/
def numK (zero one next : Int) (k : Nat) (q : Nat) : Int := if q = 0 then zero else if q = 1 then one else if q < k then next + (q : Int) - 2 else 0
/-- a contact with other points -/
def renC (zero one next : Int) (c : List Int) : List Int := [min (numZ zero one next (c.getD 0 0)) (numZ zero one next (c.getD 1 0)), max (numZ zero one next (c.getD 0 0)) (numZ zero one next (c.getD 1 0)), c.getD 2 0, c.getD 3 0]

/-- a box of eight numbers -/
def N8 (w : World) (b : Nat) (f : Nat → Int) : Prop := (∀ j, j < 8 → w.cell? ⟨b, j, none⟩ = some (.int .i64 (f j)) ∧ w.frozen? ⟨b, j, none⟩ = false) ∧ b < w.heap.size
theorem N8.keep {w w' : World} {b : Nat} {f : Nat → Int} (h : N8 w b f) (hb : Below w.heap.size w w') : N8 w' b f := by
  obtain ⟨h1, hz⟩ := h
  have := hb.size
  exact ⟨fun j hj => ⟨(hb.cell (p := ⟨b, j, none⟩) hz).trans (h1 j hj).1, (hb.frozen (p := ⟨b, j, none⟩) hz).trans (h1 j hj).2⟩, by omega⟩
theorem N8.put {w : World} {b : Nat} {f g : Nat → Int} (h : N8 w b f) (k : Nat) (hk : k < 8) (x : Int) (hx : g k = x) (ho : ∀ j, j < 8 → j ≠ k → g j = f j) : N8 (w.setCell ⟨b, k, none⟩ (.int .i64 x)) b g := by
  obtain ⟨h1, hz⟩ := h
  refine ⟨fun j hj => ⟨?_, by rw [World.frozen?_setCell]; exact (h1 j hj).2⟩, by rw [World.size_setCell]; exact hz⟩
  by_cases e : j = k
  · subst e
    rw [World.cell?_setCell_same _ _ _ (h1 j hj).1, hx]
  · rw [World.cell?_setCell_other w ⟨b, k, none⟩ ⟨b, j, none⟩ _ (by first | exact fun h => e (congrArg Addr.off h) | exact fun h => e (congrArg Addr.off h).symm), (h1 j hj).1, ho j hj e]
theorem N8.far {w : World} {b : Nat} {f : Nat → Int} (h : N8 w b f) (p : Addr) (v : Value) (hp : b ≠ p.block) : N8 (w.setCell p v) b f := by
  obtain ⟨h1, hz⟩ := h
  have e := Below.heap_setCell w p v b hp
  exact ⟨fun j hj => ⟨(World.cell?_of_block (w := w) e).trans (h1 j hj).1, (World.frozen?_of_block (w := w) e).trans (h1 j hj).2⟩, by rw [World.size_setCell]; exact hz⟩
theorem N8.drew {w : World} {b : Nat} {f : Nat → Int} (h : N8 w b f) : N8 w.drew b f := h
theorem N8.here (w : World) (zero one : Int) (t : TypeId) (next : Int) : N8 (w.alloc (.cells #[.int .i64 zero, .int .i64 one, .int .i64 0, .int .i64 0, .int .i64 0, .int .i64 0, .int .i64 0, .int .i64 0] t)) w.heap.size (numK zero one next 2) := by
  refine ⟨fun j hj => ⟨?_, World.frozen?_alloc_at _ _ _ _ rfl⟩, by simp⟩
  rw [World.cell?_alloc_at _ _ _ _ rfl]
  have h : j = 0 ∨ j = 1 ∨ j = 2 ∨ j = 3 ∨ j = 4 ∨ j = 5 ∨ j = 6 ∨ j = 7 := by omega
  rcases h with rfl | rfl | rfl | rfl | rfl | rfl | rfl | rfl <;> rfl
theorem numK_num {zero one next : Int} {p : Int} {q : Nat} (hq : (q : Int) < p) (hp : 2 ≤ p) : numK zero one next p.toNat q = numZ zero one next (q : Int) := by
  unfold numK numZ
  by_cases h0 : q = 0
  · subst h0; rfl
  · by_cases h1 : q = 1
    · subst h1; rfl
    · have a : ¬ ((q : Int) = 0) := by omega
      have b : ¬ ((q : Int) = 1) := by omega
      have c : q < p.toNat := by omega
      rw [if_neg h0, if_neg h1, if_pos c, if_neg a, if_neg b]

/-- the first k contacts with other points -/
def renTo (zero one next : Int) (xss : List (List Int)) (k : Nat) : List (List Int) := (xss.map (renC zero one next)).take k ++ xss.drop k
theorem renTo_zero (zero one next : Int) (xss : List (List Int)) : renTo zero one next xss 0 = xss := by simp [renTo]
theorem renTo_all (zero one next : Int) (xss : List (List Int)) : renTo zero one next xss xss.length = xss.map (renC zero one next) := by
  unfold renTo; rw [List.drop_length, List.append_nil, List.take_of_length_le (by simp)]
theorem renTo_len (zero one next : Int) (xss : List (List Int)) (k : Nat) : (renTo zero one next xss k).length = xss.length := by
  simp [renTo]; omega
theorem renTo_at {zero one next : Int} {xss : List (List Int)} {k : Nat} (hk : k < xss.length) : (renTo zero one next xss k).getD k [] = xss.getD k [] := by
  have h : ((xss.map (renC zero one next)).take k).length = k := by simp; omega
  unfold renTo
  simp only [List.getD_eq_getElem?_getD]
  rw [List.getElem?_append_right (by omega), h, Nat.sub_self]
  simp
theorem renTo_set {zero one next : Int} {xss : List (List Int)} {k : Nat} (hk : k < xss.length) : (renTo zero one next xss k).set k (renC zero one next (xss.getD k [])) = renTo zero one next xss (k + 1) := by
  have h : ((xss.map (renC zero one next)).take k).length = k := by simp; omega
  unfold renTo
  rw [List.set_append_right _ _ (by omega), h, Nat.sub_self, List.drop_eq_getElem_cons hk, List.set_cons_zero, List.take_succ_eq_append_getElem (by simpa using hk), List.append_assoc]
  simp [List.getD_eq_getElem?_getD, hk]
theorem OwnsC.monoC {w : World} {base base' : Nat} {v : Value} {L : List (List Int)} (h : OwnsC w base v L) (hb : base' ≤ base) : OwnsC w base' v L := by
  refine ⟨h.1, ?_⟩
  rcases h.2 with h2 | ⟨g, cap, cur, hv, hbg, r⟩
  · exact .inl h2
  · exact .inr ⟨g, cap, cur, hv, Nat.le_trans hb hbg, r⟩

end Go.Proofs.Ytibfenkaoaclfaa
