/- The text of a network: mathematics. -/
import Derived.Test.YtglbndobbmgjmaaDoorTtM
import Derived.Test.YtglbndobbmgjmaaDoorClosedM
namespace Go.Proofs.YtglbndobbmgjmaaDoor
open Go.RowKit
set_option linter.unusedVariables false

/-- the signs of a contact -/
def ctxt (c : List Int) : List Int := [48 + c.getD 0 0, 48 + c.getD 1 0, (if c.getD 3 0 = 1 then 65 else 97) + c.getD 2 0]
def commaZ (k : Nat) : List Int := if k = 0 then [] else [44]
/-- the signs of the text up to contact k -/
def ntxt (p : Int) (xss : List (List Int)) : Nat → List Int
  | 0 => [48 + p, 58]
  | k + 1 => (ntxt p xss k ++ commaZ k) ++ ctxt (xss.getD k [])
theorem ntxt_succ (p : Int) (xss : List (List Int)) (k : Nat) : ntxt p xss (k + 1) = (ntxt p xss k ++ commaZ k) ++ ctxt (xss.getD k []) := rfl
theorem commaZ_len (k : Nat) : (commaZ k).length ≤ 1 := by unfold commaZ; split <;> simp
theorem ntxt_len (p : Int) (xss : List (List Int)) : ∀ k : Nat, 2 ≤ (ntxt p xss k).length ∧ (ntxt p xss k).length ≤ 2 + 4 * k
  | 0 => ⟨Nat.le_refl _, Nat.le_refl _⟩
  | k + 1 => by
    have ih := ntxt_len p xss k
    have hc := commaZ_len k
    have e : (ctxt (xss.getD k [])).length = 3 := rfl
    rw [ntxt_succ, List.length_append, List.length_append, e]
    omega
theorem net_at {p : Int} {xss : List (List Int)} (h : Net p xss) {i : Nat} (hi : i < xss.length) :
    (0 ≤ (xss.getD i []).getD 0 0 ∧ (xss.getD i []).getD 0 0 ≤ 8) ∧ (0 ≤ (xss.getD i []).getD 1 0 ∧ (xss.getD i []).getD 1 0 ≤ 8) ∧ (0 ≤ (xss.getD i []).getD 2 0 ∧ (xss.getD i []).getD 2 0 < 5) ∧ (0 ≤ (xss.getD i []).getD 3 0 ∧ (xss.getD i []).getD 3 0 < 2) := by
  have hc := (h.2.2.2 i hi).1
  have h8 := h.2.1
  exact ⟨⟨hc.2.1, by have := hc.2.2.1; have := hc.2.2.2.1; omega⟩, ⟨by have := hc.2.1; have := hc.2.2.1; omega, by have := hc.2.2.2.1; omega⟩, hc.2.2.2.2.1, hc.2.2.2.2.2⟩
theorem ntxt_bd {p : Int} {xss : List (List Int)} (h : Net p xss) : ∀ k : Nat, k ≤ xss.length → ∀ x ∈ ntxt p xss k, 0 ≤ x ∧ x < 256
  | 0, _ => by
    intro x hx
    have h1 := h.1
    have h2 := h.2.1
    simp only [ntxt, List.mem_cons, List.not_mem_nil, or_false] at hx
    rcases hx with rfl | rfl <;> omega
  | k + 1, hk => by
    intro x hx
    rw [ntxt_succ, List.mem_append, List.mem_append] at hx
    rcases hx with (hx | hx) | hx
    · exact ntxt_bd h k (by omega) x hx
    · unfold commaZ at hx
      split at hx
      · cases hx
      · simp only [List.mem_cons, List.not_mem_nil, or_false] at hx; omega
    · obtain ⟨h0, h1, h2, h3⟩ := net_at h (show k < xss.length by omega)
      unfold ctxt at hx
      simp only [List.mem_cons, List.not_mem_nil, or_false] at hx
      rcases hx with rfl | rfl | rfl
      · omega
      · omega
      · split <;> omega
def resNetworkText_0 (p : Int) (xss : List (List Int)) : ByteArray := if Net p xss then strZ (ntxt p xss xss.length) else ⟨#[]⟩
def resNetworkText_1 (p : Int) (xss : List (List Int)) : Int := if Net p xss then 0 else 1
theorem resNT_yes {p : Int} {xss : List (List Int)} (h : Net p xss) : resNetworkText_0 p xss = strZ (ntxt p xss xss.length) ∧ resNetworkText_1 p xss = 0 := by
  unfold resNetworkText_0 resNetworkText_1; rw [if_pos h, if_pos h]; exact ⟨rfl, rfl⟩
theorem resNT_no {p : Int} {xss : List (List Int)} (h : ¬ Net p xss) : resNetworkText_0 p xss = ⟨#[]⟩ ∧ resNetworkText_1 p xss = 1 := by
  unfold resNetworkText_0 resNetworkText_1; rw [if_neg h, if_neg h]; exact ⟨rfl, rfl⟩

end Go.Proofs.YtglbndobbmgjmaaDoor
