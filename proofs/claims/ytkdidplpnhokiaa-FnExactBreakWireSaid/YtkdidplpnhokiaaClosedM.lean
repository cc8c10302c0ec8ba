/- Closed contacts: plain mathematics. -/
import Derived.Test.YtkdidplpnhokiaaAt
import Derived.Test.YtkdidplpnhokiaaNetM
import Derived.Test.YtkdidplpnhokiaaSetsM
namespace Go.Proofs.Ytkdidplpnhokiaa
open Go.RowKit

/-- is the contact i closed in a row -/
def clB (xss : List (List Int)) (row : Int) (i : Nat) : Bool := digZ row ((xss.getD i []).getD 2 0) != (xss.getD i []).getD 3 0
/-- the closed contacts in a row, by bits -/
def closedS (xss : List (List Int)) (row : Int) : Int := ((setOf (clB xss row) xss.length : Nat) : Int)
theorem closedS_bd (xss : List (List Int)) (row : Int) (h : xss.length ≤ 12) : 0 ≤ closedS xss row ∧ closedS xss row < 4096 := by
  have h1 := Nat.lt_of_lt_of_le (setOf_lt (clB xss row) xss.length) (Nat.pow_le_pow_right (by decide) h)
  unfold closedS; omega
theorem net_con {p : Int} {xss : List (List Int)} (h : Net p xss) : xss.length ≤ 12 ∧ (∀ i, i < xss.length → (xss.getD i []).length = 4) ∧
    (∀ i, i < xss.length → 0 ≤ (xss.getD i []).getD 2 0 ∧ (xss.getD i []).getD 2 0 < 5) ∧ (∀ i, i < xss.length → (xss.getD i []).length = 4 ∧ 0 ≤ (xss.getD i []).getD 2 0 ∧ (xss.getD i []).getD 2 0 < 5) := by
  refine ⟨h.2.2.1, fun i hi => (h.2.2.2 i hi).1.1, fun i hi => (h.2.2.2 i hi).1.2.2.2.2.1, fun i hi => ⟨(h.2.2.2 i hi).1.1, (h.2.2.2 i hi).1.2.2.2.2.1⟩⟩

/-- the error of a network, a row and points -/
def netCode (p : Int) (xss : List (List Int)) (row : Int) (pts : List Int) : Int :=
  if Net p xss then (if (0 ≤ row ∧ row ≤ 31) ∧ ∀ i, i < pts.length → 0 ≤ pts.getD i 0 ∧ pts.getD i 0 ≤ p - 1 then 0 else 2) else 1

end Go.Proofs.Ytkdidplpnhokiaa
