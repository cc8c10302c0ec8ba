/- Wirings: mathematics. -/
import Derived.Test.YtkdidplpnhokiaaWri
import Derived.Test.YtkdidplpnhokiaaNetM
namespace Go.Proofs.Ytkdidplpnhokiaa
open Go.RowKit
set_option linter.unusedVariables false

/-- switches: one to five, each a 3 or a 4 -/
def SwOk (xs : List Int) : Prop := (1 ≤ xs.length ∧ xs.length ≤ 5) ∧ ∀ i, i < xs.length → xs.getD i 0 = 3 ∨ xs.getD i 0 = 4
instance (xs : List Int) : Decidable (SwOk xs) := by unfold SwOk; infer_instance
/-- 2 and the first k switches' terminals together: where the switch k begins -/
def termZ (xs : List Int) : Nat → Int
  | 0 => 2
  | k + 1 => termZ xs k + xs.getD k 0
theorem termZ_bd {xs : List Int} (h : SwOk xs) {k : Nat} (hk : k ≤ xs.length) : 2 + 3 * (k : Int) ≤ termZ xs k ∧ termZ xs k ≤ 2 + 4 * (k : Int) := by
  induction k with
  | zero => simp [termZ]
  | succ k ih =>
    obtain ⟨h1, h2⟩ := ih (by omega)
    have := h.2 k (by omega)
    simp only [termZ]
    omega
theorem termZ_mono {xs : List Int} (h : SwOk xs) {k m : Nat} (hk : k ≤ m) (hm : m ≤ xs.length) : termZ xs k ≤ termZ xs m := by
  induction m with
  | zero => have : k = 0 := by omega
            subst this; exact Int.le_refl _
  | succ m ih =>
    rcases Nat.lt_or_ge k (m + 1) with h1 | h1
    · have := ih (by omega) (by omega)
      have := h.2 m (by omega)
      simp only [termZ]
      omega
    · have : k = m + 1 := by omega
      subst this; exact Int.le_refl _
theorem term_in {xs : List Int} (h : SwOk xs) {k : Nat} (hk : k < xs.length) : termZ xs k + xs.getD k 0 ≤ termZ xs xs.length := by
  have := termZ_mono h (k := k + 1) (m := xs.length) hk (Nat.le_refl _)
  simpa only [termZ] using this
/-- a wire of a wiring of p terminals -/
def WOk (p : Int) (r : List Int) : Prop := r.length = 2 ∧ 0 ≤ r.getD 0 0 ∧ r.getD 0 0 < r.getD 1 0 ∧ r.getD 1 0 < p
instance (p : Int) (r : List Int) : Decidable (WOk p r) := by unfold WOk; infer_instance
/-- the wire i as a wiring wants it -/
def okW (p : Int) (yss : List (List Int)) (i : Nat) : Prop := WOk p (yss.getD i []) ∧ (0 < i → 0 ≤ cmpL (yss.getD i []) (yss.getD (i - 1) []))
instance (p : Int) (yss : List (List Int)) : DecidablePred (okW p yss) := fun i => by unfold okW; infer_instance
/-- is it a wiring -/
def Wir (p : Int) (xs : List Int) (yss : List (List Int)) : Prop := SwOk xs ∧ p = termZ xs xs.length ∧ yss.length ≤ 16 ∧ ∀ i, i < yss.length → okW p yss i
instance (p : Int) (xs : List Int) (yss : List (List Int)) : Decidable (Wir p xs yss) := by unfold Wir; infer_instance
def wirB (p : Int) (xs : List Int) (yss : List (List Int)) : Bool := decide (Wir p xs yss)
theorem wirB_out {p : Int} {xs : List Int} {yss : List (List Int)} (h : wirB p xs yss = true) : Wir p xs yss := of_decide_eq_true h

/-- a cell of a slice of slices, and of its rows -/
theorem Reads2.cellW {w : World} {a : Option Addr} {n ca : Nat} {xss : List (List Int)} (h : Reads2 w (.slice a n ca) xss) {k : Nat} (hk : k < xss.length) :
    ∃ b off u, a = some ⟨b, off, none⟩ ∧ w.cell? ⟨b, off + k, none⟩ = some u ∧ Reads w u (xss.getD k []) := by
  obtain ⟨a', ca', e, hm, h⟩ := h
  simp only [Value.slice.injEq] at e
  obtain ⟨rfl, rfl, rfl⟩ := e
  rcases h with rfl | ⟨b, off, rfl, h⟩
  · simp at hk
  · obtain ⟨u, hu, hr⟩ := h k hk
    exact ⟨b, off, u, rfl, hu, hr⟩
theorem Reads.cellW {w : World} {a : Option Addr} {n ca : Nat} {xs : List Int} (h : Reads w (.slice a n ca) xs) {k : Nat} (hk : k < xs.length) :
    ∃ b off, a = some ⟨b, off, none⟩ ∧ w.cell? ⟨b, off + k, none⟩ = some (.int .i64 (xs.getD k 0)) := by
  obtain ⟨a', ca', e, hm, h⟩ := h
  simp only [Value.slice.injEq] at e
  obtain ⟨rfl, rfl, rfl⟩ := e
  rcases h with rfl | ⟨b, off, rfl, h⟩
  · simp at hk
  · exact ⟨b, off, rfl, h k hk⟩

end Go.Proofs.Ytkdidplpnhokiaa
