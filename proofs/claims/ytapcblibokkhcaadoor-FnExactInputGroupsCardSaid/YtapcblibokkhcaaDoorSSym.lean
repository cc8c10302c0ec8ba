/- SymmetricTable: the model's. -/
import Derived.Test.YtapcblibokkhcaaDoorSymM
import Derived.Test.YtapcblibokkhcaaDoorSPart
namespace Go.Proofs.YtapcblibokkhcaaDoor
open Go.RowKit
set_option linter.unusedVariables false

theorem low_fin : ∀ j : Fin 32, 0 < j.val → onesN (j.val &&& (j.val - 1)) + 1 = onesN j.val ∧ (j.val &&& (j.val - 1)) < j.val := by decide +kernel
theorem ones_zero : onesN 0 = 0 := by decide

set_option maxHeartbeats 1000000 in
theorem l03Ones_any (k : Nat) (w : World) (hk : k < 32) :
    Calls Tryd.prog 52 #[.int .i64 (k : Int)] w fun e w' => e = .returned (.int .i64 (onesN k : Int)) ∧ w = w' := by
  obtain ⟨K, hK⟩ : ∃ K, onesN k = K := ⟨_, rfl⟩
  have HK := Lib.hid hK
  have HK5 : Hid (K ≤ 5) := by rw [← hK]; exact onesN_le k
  rw [hK]
  clear hK
  go_enter Tryd.func52, Tryd.ntmps52
  go_wp2_with fail
  go_loop [0, 3] (fun r c => ∃ a b : Nat, a < 32 ∧ r = .int .i64 (a : Int) ∧ c = .int .i64 (b : Int) ∧ Hid (onesN a + b = K)) (fun r _ => (intOf r).toNat)
  case atStart => exact ⟨k, 0, hk, rfl, rfl, by unfold Hid; rw [HK.out]; rfl⟩
  case round =>
    obtain ⟨a, b, ha, rfl, rfl, HE⟩ := hrel
    by_cases hlt : (0 : Int) < (a : Int)
    · have hl := low_fin ⟨a, ha⟩ (show 0 < a by omega)
      have HL : Hid (onesN (a &&& (a - 1)) + 1 = onesN a) := hl.1
      have HM : Hid ((a &&& (a - 1)) < a) := hl.2
      clear hl
      have h1 : (a : Int) - 1 = ((a - 1 : Nat) : Int) := by omega
      have h2 : bits .and .i64 (a : Int) ((a - 1 : Nat) : Int) = ((a &&& (a - 1) : Nat) : Int) := i64_and a (a - 1) (by omega) (by omega)
      have h3 : wrap64 ((b : Int) + 1) = ((b + 1 : Nat) : Int) := by rw [IntWalk.wrap64_in _ (by have := HE.out; have := HK5.out; omega)]; omega
      go_wp2_with fail
      exact ⟨⟨a &&& (a - 1), b + 1, by have := HM.out; omega, rfl, by rw [h3], by unfold Hid; have := HE.out; have := HL.out; omega⟩, by have := HM.out; show (((a &&& (a - 1) : Nat) : Int)).toNat < ((a : Nat) : Int).toNat; rw [Int.toNat_natCast, Int.toNat_natCast]; exact this⟩
    · obtain rfl : a = 0 := by omega
      have HB : Hid (b = K) := by have := HE.out; rw [ones_zero] at this; unfold Hid; omega
      go_wp2_with fail
      go_ret
      exact ⟨by rw [← HB.out]; rfl, rfl⟩

theorem mem_getD {x : Int} {xs : List Int} : x ∈ xs ↔ ∃ i, i < xs.length ∧ xs.getD i 0 = x := by
  constructor
  · intro h
    obtain ⟨i, hi, e⟩ := List.mem_iff_getElem.1 h
    exact ⟨i, hi, by simp [List.getD_eq_getElem?_getD, hi, e]⟩
  · rintro ⟨i, hi, e⟩
    rw [← e]
    simp [List.getD_eq_getElem?_getD, hi]

/-- the first place of a list at which a number stands -/
theorem first_at (x : Int) (xs : List Int) : ∃ j, j ≤ xs.length ∧ (∀ i, i < j → xs.getD i 0 ≠ x) ∧ (j < xs.length → xs.getD j 0 = x) ∧ (decide (x ∈ xs) = decide (j < xs.length)) := by
  have main : ∀ m, m ≤ xs.length → (∀ i, i < m → xs.getD i 0 ≠ x) ∨ ∃ j, j < xs.length ∧ (∀ i, i < j → xs.getD i 0 ≠ x) ∧ xs.getD j 0 = x := by
    intro m
    induction m with
    | zero => intro _; left; intro i hi; omega
    | succ m ih =>
      intro hm
      rcases ih (by omega) with hall | hbad
      · by_cases hk : xs.getD m 0 = x
        · right; exact ⟨m, by omega, hall, hk⟩
        · left; intro i hi
          rcases Nat.lt_or_ge i m with h1 | h1
          · exact hall i h1
          · have : i = m := by omega
            subst this; exact hk
      · right; exact hbad
  rcases main xs.length (Nat.le_refl _) with hall | ⟨j, h1, h2, h3⟩
  · refine ⟨xs.length, Nat.le_refl _, hall, fun h => absurd h (Nat.lt_irrefl _), ?_⟩
    have : x ∉ xs := fun h => by obtain ⟨i, hi, e⟩ := mem_getD.1 h; exact hall i hi e
    simp [this]
  · refine ⟨j, by omega, h2, fun _ => h3, ?_⟩
    have : x ∈ xs := mem_getD.2 ⟨j, h1, h3⟩
    simp [this, h1]

/-- the code of n and a list of numbers -/
def givCode (n : Int) (xs : List Int) : Int := if (1 ≤ n ∧ n ≤ 5) ∧ ascB (n + 1) xs then 0 else 2

end Go.Proofs.YtapcblibokkhcaaDoor
