/- Contacts as arrays: made out of a network. -/
import Derived.Test.YtkdidplpnhokiaaOwn2
import Derived.Test.YtkdidplpnhokiaaNetM
import Derived.Laws.Cover3
namespace Go.Proofs.Ytkdidplpnhokiaa
open Go.RowKit
set_option linter.unusedVariables false

theorem infoCon : (Try.prog.info? 116).map (fun i => (i.zero, i.size, i.bytes)) = some (some (.agg #[.int .i64 0, .int .i64 0, .int .i64 0, .int .i64 0]), 4, 32) := by kernel_rfl

/-- the cells of n contacts, the first k of xss, zeros behind -/
def cellsC (xss : List (List Int)) (n k : Nat) : List Value := (List.range (n * 4)).map fun q => .int .i64 (if q / 4 < k then (xss.getD (q / 4) []).getD (q % 4) 0 else 0)
theorem cellsC_step (xss : List (List Int)) (n k : Nat) (hk : k < n) :
    ((((cellsC xss n k).set (k * 4) (.int .i64 ((xss.getD k []).getD 0 0))).set (k * 4 + 1) (.int .i64 ((xss.getD k []).getD 1 0))).set (k * 4 + 2) (.int .i64 ((xss.getD k []).getD 2 0))).set (k * 4 + 3) (.int .i64 ((xss.getD k []).getD 3 0)) = cellsC xss n (k + 1) := by
  unfold cellsC
  apply List.ext_getElem
  · simp
  · intro q h1 h2
    simp only [List.getElem_set, List.getElem_map, List.getElem_range]
    by_cases e3 : k * 4 + 3 = q
    · have a : q / 4 = k := by omega
      have b : q % 4 = 3 := by omega
      rw [if_pos e3, a, b, if_pos (by omega)]
    · rw [if_neg e3]
      by_cases e2 : k * 4 + 2 = q
      · have a : q / 4 = k := by omega
        have b : q % 4 = 2 := by omega
        rw [if_pos e2, a, b, if_pos (by omega)]
      · rw [if_neg e2]
        by_cases e1 : k * 4 + 1 = q
        · have a : q / 4 = k := by omega
          have b : q % 4 = 1 := by omega
          rw [if_pos e1, a, b, if_pos (by omega)]
        · rw [if_neg e1]
          by_cases e0 : k * 4 = q
          · have a : q / 4 = k := by omega
            have b : q % 4 = 0 := by omega
            rw [if_pos e0, a, b, if_pos (by omega)]
          · rw [if_neg e0]
            by_cases h : q / 4 < k
            · rw [if_pos h, if_pos (by omega)]
            · rw [if_neg h, if_neg (by omega)]
theorem cellsC_zero (xss : List (List Int)) (n : Nat) : (madeCells (Value.agg #[.int .i64 0, .int .i64 0, .int .i64 0, .int .i64 0]).cells (n * 4)).toList = cellsC xss n 0 := by
  unfold cellsC
  apply List.ext_getElem
  · simp [madeCells]
  · intro q h1 h2
    have h : q % 4 = 0 ∨ q % 4 = 1 ∨ q % 4 = 2 ∨ q % 4 = 3 := by omega
    rcases h with h | h | h | h <;> simp [madeCells, Value.cells, h]

/-- the slice v of arrays lies in a block of its own, from block base on, and has the contacts xss -/
def OwnsC (w : World) (base : Nat) (v : Value) (xss : List (List Int)) : Prop := w.ownsRow base 116 4 v xss.length (cellsC xss xss.length xss.length)
/-- the slice v of arrays reads as the contacts xss -/
def ReadsC (w : World) (v : Value) (xss : List (List Int)) : Prop :=
  ∃ (a : Option Addr) (cap : Nat), v = .slice a xss.length cap ∧ xss.length ≤ maxLen ∧
    (xss = [] ∨ ∃ b, a = some ⟨b, 0, none⟩ ∧ ∀ i, i < xss.length → ∀ j, j < 4 → w.cell? ⟨b, i * 4 + j, none⟩ = some (.int .i64 ((xss.getD i []).getD j 0)))
theorem ReadsC.keep {w w' : World} {v : Value} {xss : List (List Int)} (h : ReadsC w v xss) (hb : Below w.heap.size w w') : ReadsC w' v xss := by
  obtain ⟨a, cap, rfl, hm, h⟩ := h
  refine ⟨a, cap, rfl, hm, ?_⟩
  rcases h with h | ⟨b, rfl, h⟩
  · exact .inl h
  · exact .inr ⟨b, rfl, fun i hi j hj => cell_later hb (h i hi j hj)⟩
theorem OwnsC.reads {w : World} {base : Nat} {v : Value} {xss : List (List Int)} (h : OwnsC w base v xss) : ReadsC w v xss := by
  have h' := h
  rcases h.2 with ⟨rfl, hn⟩ | ⟨g, cap, cur, rfl, hb, hg, hc, hm, hs, ht⟩
  · have e : xss = [] := List.length_eq_zero_iff.1 hn
    subst e
    exact ⟨none, 0, rfl, by simp, .inl rfl⟩
  · refine ⟨_, cap, rfl, by omega, .inr ⟨g, rfl, fun i hi j hj => ?_⟩⟩
    unfold OwnsC at h'
    rw [h'.cellAt (i * 4 + j) (by omega)]
    have e1 : (i * 4 + j) / 4 = i := by omega
    have e2 : (i * 4 + j) % 4 = j := by omega
    have e3 : i * 4 + j < xss.length * 4 := by omega
    unfold cellsC
    rw [List.getElem?_map, List.getElem?_range e3]
    simp only [Option.map_some, e1, e2, if_pos hi]
theorem OwnsC.keep {w w' : World} {base : Nat} {v : Value} {xss : List (List Int)} (h : OwnsC w base v xss) (hb : Below w.heap.size w w') : OwnsC w' base v xss := rowLater h hb

/-- a row of four numbers in memory -/
theorem Reads.four {w : World} {v : Value} {c : List Int} (h : Reads w v c) (h4 : c.length = 4) :
    ∃ cb co cc, v = .slice (some ⟨cb, co, none⟩) 4 cc ∧ ∀ j, j < 4 → w.cell? ⟨cb, co + j, none⟩ = some (.int .i64 (c.getD j 0)) := by
  obtain ⟨a, cap, rfl, _, h⟩ := h
  rcases h with rfl | ⟨cb, co, rfl, h⟩
  · cases h4
  · exact ⟨cb, co, cap, by rw [h4], fun j hj => h j (by omega)⟩

end Go.Proofs.Ytkdidplpnhokiaa
