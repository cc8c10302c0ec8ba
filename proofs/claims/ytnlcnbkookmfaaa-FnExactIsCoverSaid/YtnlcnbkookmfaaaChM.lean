/- Flow charts: mathematics. -/
import Derived.Test.YtnlcnbkookmfaaaC3
import Derived.Test.YtnlcnbkookmfaaaNetM
namespace Go.Proofs.Ytnlcnbkookmfaaa
open Go.RowKit
set_option linter.unusedVariables false

/-- a row of p places, each -1 or a number below l -/
def RowOk (p l : Int) (r : List Int) : Prop := (r.length : Int) = p ∧ ∀ i, i < r.length → -1 ≤ r.getD i 0 ∧ r.getD i 0 < l
instance (p l : Int) (r : List Int) : Decidable (RowOk p l r) := by unfold RowOk; infer_instance
def RowsOk (p l : Int) (xss : List (List Int)) : Prop := ∀ i, i < xss.length → RowOk p l (xss.getD i [])
instance (p l : Int) (xss : List (List Int)) : Decidable (RowsOk p l xss) := by unfold RowsOk; infer_instance
/-- is it a chart -/
def Cha (p : Int) (xss yss : List (List Int)) : Prop := (1 ≤ xss.length ∧ xss.length ≤ 8) ∧ (1 ≤ p ∧ p ≤ 4) ∧ yss.length = xss.length ∧ RowsOk p (xss.length : Int) xss ∧ RowsOk p 2 yss
instance (p : Int) (xss yss : List (List Int)) : Decidable (Cha p xss yss) := by unfold Cha; infer_instance
def chaB (p : Int) (xss yss : List (List Int)) : Bool := decide (Cha p xss yss)
theorem chaB_out {p : Int} {xss yss : List (List Int)} (h : chaB p xss yss = true) : Cha p xss yss := of_decide_eq_true h
/-- what stands in a row and a column -/
def plZ (xss : List (List Int)) (r c : Nat) : Int := (xss.getD r []).getD c 0
theorem nx_bd {p : Int} {xss yss : List (List Int)} (h : chaB p xss yss = true) {r c : Nat} (hr : r < xss.length) (hc : (c : Int) < p) : -1 ≤ plZ xss r c ∧ plZ xss r c < (xss.length : Int) := by
  obtain ⟨_, _, _, h4, _⟩ := chaB_out h
  obtain ⟨e, h5⟩ := h4 r hr
  exact h5 c (by omega)
theorem ot_bd {p : Int} {xss yss : List (List Int)} (h : chaB p xss yss = true) {r c : Nat} (hr : r < xss.length) (hc : (c : Int) < p) : -1 ≤ plZ yss r c ∧ plZ yss r c < 2 := by
  obtain ⟨_, _, h3, _, h4⟩ := chaB_out h
  obtain ⟨e, h5⟩ := h4 r (by omega)
  exact h5 c (by omega)
theorem row_len {p : Int} {xss yss : List (List Int)} (h : chaB p xss yss = true) {r : Nat} (hr : r < xss.length) : ((xss.getD r []).length : Int) = p ∧ ((yss.getD r []).length : Int) = p := by
  obtain ⟨_, _, h3, h4, h5⟩ := chaB_out h
  exact ⟨(h4 r hr).1, (h5 r (by omega)).1⟩

/-- a cell of a slice of slices, and of its rows -/
theorem Reads2.cellR {w : World} {a : Option Addr} {n ca : Nat} {xss : List (List Int)} (h : Reads2 w (.slice a n ca) xss) {k : Nat} (hk : k < xss.length) :
    ∃ b off u, a = some ⟨b, off, none⟩ ∧ w.cell? ⟨b, off + k, none⟩ = some u ∧ Reads w u (xss.getD k []) := by
  obtain ⟨a', ca', e, hm, h⟩ := h
  simp only [Value.slice.injEq] at e
  obtain ⟨rfl, rfl, rfl⟩ := e
  rcases h with rfl | ⟨b, off, rfl, h⟩
  · simp at hk
  · obtain ⟨u, hu, hr⟩ := h k hk
    exact ⟨b, off, u, rfl, hu, hr⟩
theorem Reads.cellR {w : World} {a : Option Addr} {n ca : Nat} {xs : List Int} (h : Reads w (.slice a n ca) xs) {k : Nat} (hk : k < xs.length) :
    ∃ b off, a = some ⟨b, off, none⟩ ∧ w.cell? ⟨b, off + k, none⟩ = some (.int .i64 (xs.getD k 0)) := by
  obtain ⟨a', ca', e, hm, h⟩ := h
  simp only [Value.slice.injEq] at e
  obtain ⟨rfl, rfl, rfl⟩ := e
  rcases h with rfl | ⟨b, off, rfl, h⟩
  · simp at hk
  · exact ⟨b, off, rfl, h k hk⟩
/-- one place: the row's slice in its cell, and the number in the row's -/
theorem Reads2.place {w : World} {a : Option Addr} {n ca : Nat} {xss : List (List Int)} (h : Reads2 w (.slice a n ca) xss) {r c : Nat} (hr : r < xss.length) (hc : c < (xss.getD r []).length) :
    ∃ b off ub uo uc, a = some ⟨b, off, none⟩ ∧ w.cell? ⟨b, off + r, none⟩ = some (.slice (some ⟨ub, uo, none⟩) (xss.getD r []).length uc) ∧ w.cell? ⟨ub, uo + c, none⟩ = some (.int .i64 (plZ xss r c)) := by
  obtain ⟨b, off, u, rfl, hu, hR⟩ := h.cellR hr
  obtain ⟨ua, uc, rfl, _, _⟩ := hR
  have hR : Reads w (.slice ua (xss.getD r []).length uc) (xss.getD r []) := ⟨ua, uc, rfl, by assumption, by assumption⟩
  obtain ⟨ub, uo, rfl, hx⟩ := hR.cellR hc
  exact ⟨b, off, ub, uo, uc, rfl, hu, hx⟩

end Go.Proofs.Ytnlcnbkookmfaaa
