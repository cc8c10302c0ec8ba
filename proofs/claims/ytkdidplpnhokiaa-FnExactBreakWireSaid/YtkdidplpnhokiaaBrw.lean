/- BreakWire: mathematics, the program's, the model's. -/
import Derived.Test.YtkdidplpnhokiaaWof
import Derived.Test.YtkdidplpnhokiaaNwM
namespace Go.Proofs.Ytkdidplpnhokiaa
open Go.RowKit
set_option linter.unusedVariables false

/-- one wire not behind another -/
def le2 (x y : List Int) : Prop := x.getD 0 0 < y.getD 0 0 ∨ (x.getD 0 0 = y.getD 0 0 ∧ x.getD 1 0 ≤ y.getD 1 0)
theorem two_of {r : List Int} (h : r.length = 2) : ∃ a b, r = [a, b] := by
  match r, h with
  | [a, b], _ => exact ⟨a, b, rfl⟩
theorem cmp_le2 {x y : List Int} (hx : x.length = 2) (hy : y.length = 2) : cmpL x y ≤ 0 ↔ le2 x y := by
  obtain ⟨a, b, rfl⟩ := two_of hx
  obtain ⟨c, d, rfl⟩ := two_of hy
  simp only [cmpL, le2, List.getD_cons_zero, List.getD_cons_succ]
  by_cases h1 : a < c
  · rw [if_pos h1]; constructor
    · intro _; exact .inl h1
    · intro _; omega
  · rw [if_neg h1]
    by_cases h2 : c < a
    · rw [if_pos h2]; omega
    · rw [if_neg h2]
      by_cases h3 : b < d
      · rw [if_pos h3]; omega
      · rw [if_neg h3]
        by_cases h4 : d < b
        · rw [if_pos h4]; omega
        · rw [if_neg h4]; omega
theorem cmp_ge2 {x y : List Int} (hx : x.length = 2) (hy : y.length = 2) : 0 ≤ cmpL y x ↔ le2 x y := by
  obtain ⟨a, b, rfl⟩ := two_of hx
  obtain ⟨c, d, rfl⟩ := two_of hy
  simp only [cmpL, le2, List.getD_cons_zero, List.getD_cons_succ]
  by_cases h1 : c < a
  · rw [if_pos h1]; omega
  · rw [if_neg h1]
    by_cases h2 : a < c
    · rw [if_pos h2]; omega
    · rw [if_neg h2]
      by_cases h3 : d < b
      · rw [if_pos h3]; omega
      · rw [if_neg h3]
        by_cases h4 : b < d
        · rw [if_pos h4]; omega
        · rw [if_neg h4]; omega
theorem le2_trans {x y z : List Int} (h : le2 x y) (h' : le2 y z) : le2 x z := by
  unfold le2 at *; omega
theorem wir_order {p : Int} {xs : List Int} {yss : List (List Int)} (h : Wir p xs yss) : WInOrder yss := by
  have h2 := h.weak.two
  refine ⟨fun i hi => ⟨h2 i hi, (h.2.2.2 i hi).1.2.2.1⟩, fun i j hij hj => ?_⟩
  rw [cmp_le2 (h2 i (by omega)) (h2 j hj)]
  induction j with
  | zero => omega
  | succ j ih =>
    have hs : le2 (yss.getD j []) (yss.getD (j + 1) []) := by
      have := (h.2.2.2 (j + 1) hj).2 (by omega)
      rw [Nat.add_sub_cancel] at this
      exact (cmp_ge2 (h2 j (by omega)) (h2 (j + 1) hj)).1 this
    by_cases e : i = j
    · subst e; exact hs
    · exact le2_trans (ih (by omega) (by omega)) hs
theorem WInOrder.erase {L : List (List Int)} (h : WInOrder L) {i : Nat} (hi : i < L.length) : WInOrder (L.eraseIdx i) := by
  refine ⟨fun k hk => ?_, fun k j hkj hj => ?_⟩
  · rw [len_erase hi] at hk
    rw [getD_erase]
    split
    · exact h.1 k (by omega)
    · exact h.1 (k + 1) (by omega)
  · rw [len_erase hi] at hj
    rw [getD_erase, getD_erase]
    split <;> split
    · exact h.2 k j hkj (by omega)
    · exact h.2 k (j + 1) (by omega) (by omega)
    · omega
    · exact h.2 (k + 1) (j + 1) (by omega) (by omega)

/-- the code of a wiring and a wire's number -/
def brkC (p : Int) (xs : List Int) (yss : List (List Int)) (x : Int) : Int := if wirB p xs yss = true then (if 0 ≤ x ∧ x < (yss.length : Int) then 0 else 2) else 1
theorem brkC_zero {p : Int} {xs : List Int} {yss : List (List Int)} {x : Int} (h : brkC p xs yss x = 0) : Wir p xs yss ∧ 0 ≤ x ∧ x < (yss.length : Int) := by
  unfold brkC at h
  split at h
  · rename_i hw
    split at h
    · rename_i hx; exact ⟨wirB_out hw, hx⟩
    · cases h
  · cases h
def resBreakWire_0p (p : Int) (xs : List Int) (yss : List (List Int)) (x : Int) : Int := if brkC p xs yss x = 0 then p else 0
def resBreakWire_0 (p : Int) (xs : List Int) (yss : List (List Int)) (x : Int) : List Int := if brkC p xs yss x = 0 then xs else []
def resBreakWire_0o (p : Int) (xs : List Int) (yss : List (List Int)) (x : Int) : List (List Int) := if brkC p xs yss x = 0 then yss.eraseIdx x.toNat else []
def resBreakWire_1 (p : Int) (xs : List Int) (yss : List (List Int)) (x : Int) : Int := brkC p xs yss x
theorem sum_two {L : List (List Int)} (h : ∀ i, i < L.length → (L.getD i []).length = 2) : ∀ k, k ≤ L.length → sumLen L k = 2 * k
  | 0, _ => rfl
  | k + 1, hk => by
    show sumLen L k + (L.getD k []).length = _
    rw [sum_two h k (by omega), h k hk]; omega
theorem lenBreakWire_0 (p : Int) (xs : List Int) (yss : List (List Int)) (x : Int) : FitW 1000000 (resBreakWire_0 p xs yss x) (resBreakWire_0o p xs yss x) := by
  unfold resBreakWire_0 resBreakWire_0o
  by_cases h : brkC p xs yss x = 0
  · rw [if_pos h, if_pos h]
    obtain ⟨hw, x0, x1⟩ := brkC_zero h
    have hi : x.toNat < yss.length := by omega
    have ho := ((wir_order hw).erase hi).1
    have hs := sum_two (fun i hi => (ho i hi).1) _ (Nat.le_refl _)
    have h16 := hw.2.2.1
    have h5 := hw.1.1.2
    have hl := len_erase hi
    exact ⟨by omega, by omega, fun i hi => by rw [(ho i hi).1]; omega, by rw [hs]; omega⟩
  · rw [if_neg h, if_neg h]
    exact ⟨by simp, by simp, fun i hi => by simp at hi, by simp [sumLen]⟩

/-- a wiring whose slice of wires has room for them -/
def ReadsWF (w : World) (v : Value) (p : Int) (xs : List Int) (yss : List (List Int)) : Prop := ReadsW w v p xs yss ∧ ∀ x a n ca b m cb, v = .agg #[x, .slice a n ca, .slice b m cb] → m ≤ cb
theorem OwnW.readsF {w : World} {B C : Nat} {v : Value} {p : Int} {xs : List Int} {yss : List (List Int)} (h : OwnW w B C v p xs yss) : ReadsWF w v p xs yss := by
  refine ⟨h.reads, fun x a n ca b m cb e => ?_⟩
  obtain ⟨a', ca', b', cb', M, rfl, _, _, _, ⟨V, h2, _, _⟩⟩ := h
  simp only [Value.agg.injEq, Array.mk.injEq, List.cons.injEq, Value.slice.injEq] at e
  obtain ⟨_, _, ⟨_, rfl, rfl⟩, _⟩ := e
  rcases h2.2 with ⟨e, hn⟩ | ⟨g, cap, cur, e, _, _, hc, _⟩
  · simp only [Value.slice.injEq] at e; omega
  · simp only [Value.slice.injEq] at e; omega
theorem ReadsWF.keep {w w' : World} {v : Value} {p : Int} {xs : List Int} {yss : List (List Int)} (h : ReadsWF w v p xs yss) (hb : Below w.heap.size w w') : ReadsWF w' v p xs yss := ⟨h.1.keep hb, h.2⟩

end Go.Proofs.Ytkdidplpnhokiaa
