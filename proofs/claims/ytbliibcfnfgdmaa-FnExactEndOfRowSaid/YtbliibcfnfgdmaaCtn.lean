/- slices.Index and slices.Contains at numbers. -/
import Derived.Test.YtbliibcfnfgdmaaOwn
import Derived.Test.YtbliibcfnfgdmaaCo0
import Derived.LoopTactic
namespace Go.Proofs.Ytbliibcfnfgdmaa
open Go.RowKit
set_option linter.unusedVariables false

set_option maxRecDepth 100000 in
set_option maxHeartbeats 1000000 in
theorem index_any (v : Value) (xs : List Int) (x : Int) (j : Nat) (w : World) (ha : Reads w v xs)
    (hj : j ≤ xs.length) (hno : ∀ i, i < j → (x == xs.getD i 0) = false) (hyes : j < xs.length → (x == xs.getD j 0) = true) {r : Int} (hr : (if j < xs.length then (j : Int) else -1) = r) :
    Calls Try.prog 59 #[v, .int .i64 x] w fun e w' => e = .returned (.int .i64 r) ∧ w = w' := by
  obtain ⟨a, ca, rfl, hm, ha'⟩ := ha
  unfold maxLen at hm
  have Ha : Hid (∀ i, i < xs.length → ∃ b off, a = some ⟨b, off, none⟩ ∧ w.cell? ⟨b, off + i, none⟩ = some (.int .i64 (xs.getD i 0))) := by
    rcases ha' with rfl | ⟨b, off, rfl, ha'⟩
    · intro i hi; simp at hi
    · intro i hi; exact ⟨b, off, rfl, ha' i hi⟩
  have Hno := Lib.hid hno
  have Hyes := Lib.hid hyes
  have Hr := Lib.hid hr
  clear ha' hno hyes hr
  generalize hnn : xs.length = n at *
  clear hnn
  go_enter Try.func59, Try.ntmps59
  go_wp2_with fail
  go_loop [8] (fun c => ∃ k : Nat, k ≤ j ∧ c = .int .i64 (k : Int)) (fun c => n - (intOf c).toNat)
  case atStart => exact ⟨0, Nat.zero_le _, rfl⟩
  case round =>
    obtain ⟨k, hk, rfl⟩ := hrel
    by_cases hlt : k < n
    · obtain ⟨b, off, rfl, hca⟩ := Ha.out k hlt
      have hi1 : (k : Int) < (n : Int) := by omega
      have hi0 : (0 : Int) ≤ (k : Int) := by omega
      by_cases hkj : k < j
      · have hd := Hno.out k hkj
        generalize xs.getD k 0 = y at *
        go_wp2_with fail
        go_round
        case rel => exact ⟨k + 1, by omega, by go_num⟩
        case measure => simp [intOf]; omega
      · have e : k = j := by omega
        subst e
        have hd := Hyes.out hlt
        have HR : Hid (r = (k : Int)) := by have := Hr.out; rw [if_pos hlt] at this; exact this.symm
        generalize xs.getD k 0 = y at *
        go_wp2_with fail
        go_ret
        exact ⟨by rw [HR.out]; rfl, rfl⟩
    · have HR : Hid (r = -1) := by have := Hr.out; rw [if_neg (by omega)] at this; exact this.symm
      go_wp2_with fail
      go_ret
      exact ⟨by rw [HR.out]; rfl, rfl⟩

theorem mem_getD {xs : List Int} {x : Int} : x ∈ xs ↔ ∃ i, i < xs.length ∧ x = xs.getD i 0 := by
  constructor
  · intro h
    obtain ⟨i, hi, rfl⟩ := List.getElem_of_mem h
    exact ⟨i, hi, by simp [List.getD_eq_getElem?_getD, hi]⟩
  · rintro ⟨i, hi, rfl⟩
    simp [List.getD_eq_getElem?_getD, hi]

end Go.Proofs.Ytbliibcfnfgdmaa
