/- Values of formulas: small laws for both programs. -/
import Derived.Test.YtohmhiodmaahfaaDoorFvM
import Derived.Test.YtohmhiodmaahfaaDoorFmI
namespace Go.Proofs.YtohmhiodmaahfaaDoor
open Go.RowKit
set_option linter.unusedVariables false

/-- a digit of a row against the kind of a contact -/
theorem leafV_dig {c row : Int} (h : letC c = true) {i k : Int} (hi : inpC c = i) (hk : kndC c = k) : leafV (digZ row) c = (digZ row i != k) := by
  have h2 := of_decide_eq_true (show decide _ = true from h)
  have hd := digZ_bd row i
  have h48 : c ≠ 48 := by omega
  have h49 : c ≠ 49 := by omega
  unfold leafV
  rw [if_neg h48, if_neg h49]
  unfold inpC at hi
  unfold kndC at hk
  by_cases h97 : c < 97
  · rw [if_pos h97] at hi hk
    subst hi hk
    rw [if_pos h97, Bool.eq_iff_iff, decide_eq_true_iff, bne_iff_ne]
    omega
  · rw [if_neg h97] at hi hk
    subst hi hk
    rw [if_neg h97, Bool.eq_iff_iff, decide_eq_true_iff, bne_iff_ne]
/-- a digit of one of two rows against the kind of a contact -/
theorem leafW_dig {c m b : Int} (h : letC c = true) {i k : Int} (hi : inpC c = i) (hk : kndC c = k) : leafW (digZ m) (digZ b) c = (digZ (if k = 0 then m else b) i != k) := by
  have h2 := of_decide_eq_true (show decide _ = true from h)
  have h48 : c ≠ 48 := by omega
  have h49 : c ≠ 49 := by omega
  unfold leafW
  rw [if_neg h48, if_neg h49]
  unfold inpC at hi
  unfold kndC at hk
  by_cases h97 : c < 97
  · rw [if_pos h97] at hi hk
    subst hi hk
    have hd := digZ_bd b (c - 65)
    rw [if_pos h97, if_neg (by omega), Bool.eq_iff_iff, decide_eq_true_iff, bne_iff_ne]
    omega
  · rw [if_neg h97] at hi hk
    subst hi hk
    have hd := digZ_bd m (c - 97)
    rw [if_neg h97, if_pos rfl, Bool.eq_iff_iff, decide_eq_true_iff, bne_iff_ne]
theorem txt_member {c : Int} {ms : List Fm} (ho : openC c = true) {k : Nat} (hk : k < ms.length) : (txtF (ms.getD k (.mk 0 []))).length < (txtF (.mk c ms)).length := by
  have := txtL_take ms k hk
  rw [txtF_open ho]; simp only [List.length_cons, List.length_append, List.length_nil]; omega

end Go.Proofs.YtohmhiodmaahfaaDoor
