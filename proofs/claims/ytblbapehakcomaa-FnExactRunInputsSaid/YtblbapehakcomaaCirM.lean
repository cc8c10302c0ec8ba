/- Circuits: mathematics. -/
import Derived.Test.YtblbapehakcomaaBase
import Derived.Test.YtblbapehakcomaaSetsM
namespace Go.Proofs.Ytblbapehakcomaa
open Go.RowKit
set_option linter.unusedVariables false

/-- is it a circuit -/
def Cir (p : Int) (xs : List Int) : Prop := (1 ≤ p ∧ p ≤ 4) ∧ (1 ≤ xs.length ∧ xs.length ≤ 4) ∧ p + (xs.length : Int) ≤ 5 ∧ ∀ i, i < xs.length → 0 ≤ xs.getD i 0 ∧ xs.getD i 0 ≤ fullZ (p + (xs.length : Int))
instance (p : Int) (xs : List Int) : Decidable (Cir p xs) := by unfold Cir; infer_instance
def cirB (p : Int) (xs : List Int) : Bool := decide (Cir p xs)
theorem cirB_out {p : Int} {xs : List Int} (h : cirB p xs = true) : Cir p xs := of_decide_eq_true h

/-- is i a row of n inputs -/
def inB (i n : Int) : Bool := decide (0 ≤ i ∧ i < rcZ n)
theorem inB_out {i n : Int} (h : inB i n = true) : 0 ≤ i ∧ i < rcZ n := of_decide_eq_true h
/-- the code of a circuit, inputs and a state -/
def sitC (p : Int) (xs : List Int) (i s : Int) : Int := if cirB p xs = true then (if inB i p = true ∧ inB s xs.length = true then 0 else 2) else 1
theorem sitC_inv {p : Int} {xs : List Int} {i s : Int} (h : cirB p xs = false) : sitC p xs i s = 1 := by unfold sitC; simp [h]
theorem sitC_ok {p : Int} {xs : List Int} {i s : Int} (h : cirB p xs = true) (h1 : inB i p = true) (h2 : inB s xs.length = true) : sitC p xs i s = 0 := by unfold sitC; simp [h, h1, h2]
theorem sitC_i {p : Int} {xs : List Int} {i s : Int} (h : cirB p xs = true) (h1 : inB i p = false) : sitC p xs i s = 2 := by unfold sitC; simp [h, h1]
theorem sitC_s {p : Int} {xs : List Int} {i s : Int} (h : cirB p xs = true) (h2 : inB s xs.length = false) : sitC p xs i s = 2 := by unfold sitC; simp [h, h2]

/-- the row of inputs and a state -/
def rowZ (p i s : Int) : Int := i + rcZ p * s
theorem rcZ_cases {p : Int} (h1 : 1 ≤ p) (h4 : p ≤ 4) : (p = 1 ∧ rcZ p = 2) ∨ (p = 2 ∧ rcZ p = 4) ∨ (p = 3 ∧ rcZ p = 8) ∨ (p = 4 ∧ rcZ p = 16) := by
  have : p = 1 ∨ p = 2 ∨ p = 3 ∨ p = 4 := by omega
  rcases this with rfl | rfl | rfl | rfl
  · exact .inl ⟨rfl, rfl⟩
  · exact .inr (.inl ⟨rfl, rfl⟩)
  · exact .inr (.inr (.inl ⟨rfl, rfl⟩))
  · exact .inr (.inr (.inr ⟨rfl, rfl⟩))
theorem row_bd {p m i s : Int} (hp : 1 ≤ p ∧ p ≤ 4) (hm : 1 ≤ m ∧ m ≤ 4) (hpm : p + m ≤ 5) (hi : inB i p = true) (hs : inB s m = true) : 0 ≤ rowZ p i s ∧ rowZ p i s < 32 := by
  obtain ⟨i0, i1⟩ := inB_out hi
  obtain ⟨s0, s1⟩ := inB_out hs
  unfold rowZ
  rcases rcZ_cases hp.1 hp.2 with ⟨rfl, e⟩ | ⟨rfl, e⟩ | ⟨rfl, e⟩ | ⟨rfl, e⟩ <;> rcases rcZ_cases hm.1 hm.2 with ⟨rfl, e'⟩ | ⟨rfl, e'⟩ | ⟨rfl, e'⟩ | ⟨rfl, e'⟩ <;> (rw [e] at i1 ⊢; rw [e'] at s1; omega)
theorem state_bd {m s : Int} (hm : 1 ≤ m ∧ m ≤ 4) (hs : inB s m = true) : 0 ≤ s ∧ s < 16 := by
  obtain ⟨s0, s1⟩ := inB_out hs
  rcases rcZ_cases hm.1 hm.2 with ⟨rfl, e'⟩ | ⟨rfl, e'⟩ | ⟨rfl, e'⟩ | ⟨rfl, e'⟩ <;> (rw [e'] at s1; omega)

/-- the aim in a row, of the first k relays -/
def aimTo (xs : List Int) (r k : Nat) : Nat := build (fun j => dig (xs.getD j 0).toNat r) k
def aimN (xs : List Int) (r : Nat) : Nat := aimTo xs r xs.length
theorem aimN_lt (xs : List Int) (r : Nat) : aimN xs r < 2 ^ xs.length := build_lt _ _
theorem aimTo_lt {xs : List Int} {r k : Nat} (hk : k ≤ 4) : aimTo xs r k < 16 :=
  Nat.lt_of_lt_of_le (build_lt _ _) (Nat.pow_le_pow_right (by decide) hk)
theorem aimTo_step (xs : List Int) (r k : Nat) (hk : k < 32) :
    bits .or .i64 ((aimTo xs r k : Nat) : Int) (wrap64 (digZ (xs.getD k 0) (r : Int) * 2 ^ k)) = ((aimTo xs r (k + 1) : Nat) : Int) := by
  have hb := build_lt (fun j => dig (xs.getD j 0).toNat r) k
  have hp : 2 ^ k < 2 ^ 32 := Nat.pow_lt_pow_right (by decide) hk
  have hd := dig_lt (xs.getD k 0).toNat r
  have e : digZ (xs.getD k 0) (r : Int) * 2 ^ k = ((dig (xs.getD k 0).toNat r * 2 ^ k : Nat) : Int) := by
    unfold digZ; rw [Int.toNat_natCast]; simp
  have hm : dig (xs.getD k 0).toNat r * 2 ^ k < 2 ^ 33 := by
    have : dig (xs.getD k 0).toNat r * 2 ^ k ≤ 1 * 2 ^ k := Nat.mul_le_mul_right _ (by omega)
    omega
  rw [e, IntWalk.wrap64_in _ (by omega)]
  unfold aimTo
  rw [i64_or _ _ (by omega) (by omega)]
  have := build_or (fun j => dig (xs.getD j 0).toNat r) k
  simp only [dig_mod] at this
  rw [this]

/-- the aim of inputs and a state -/
def aimZ (p : Int) (xs : List Int) (i s : Int) : Int := ((aimN xs (rowZ p i s).toNat : Nat) : Int)
theorem aimZ_bd {p i s : Int} {xs : List Int} (hm : xs.length ≤ 4) : 0 ≤ aimZ p xs i s ∧ aimZ p xs i s < 16 := by
  have := aimTo_lt (xs := xs) (r := (rowZ p i s).toNat) hm
  unfold aimZ aimN; omega
theorem aimZ_in {p i s : Int} {xs : List Int} : inB (aimZ p xs i s) xs.length = true := by
  have := aimN_lt xs (rowZ p i s).toNat
  unfold inB aimZ rcZ
  rw [Int.toNat_natCast]
  exact decide_eq_true (by omega)
/-- the relays that will change, as a set -/
def chZ (p : Int) (xs : List Int) (i s : Int) : Int := (((aimZ p xs i s).toNat ^^^ s.toNat : Nat) : Int)
theorem chZ_bd {p i s : Int} {xs : List Int} (hm : xs.length ≤ 4) (hs : 0 ≤ s ∧ s < 16) : 0 ≤ chZ p xs i s ∧ chZ p xs i s < 16 := by
  have h1 := aimZ_bd (p := p) (i := i) (s := s) hm
  have : (aimZ p xs i s).toNat ^^^ s.toNat < 2 ^ 4 := Nat.xor_lt_two_pow (by omega) (by omega)
  unfold chZ; omega
theorem chZ_xor {p i s : Int} {xs : List Int} (hm : xs.length ≤ 4) (hs : 0 ≤ s ∧ s < 16) : bits .xor .i64 (aimZ p xs i s) s = chZ p xs i s := by
  have h1 := aimZ_bd (p := p) (i := i) (s := s) hm
  have := i64_xor (aimZ p xs i s).toNat s.toNat (by omega) (by omega)
  rw [Int.toNat_of_nonneg h1.1, Int.toNat_of_nonneg hs.1] at this
  rw [this]; rfl
/-- the relays that will change -/
def chL (p : Int) (xs : List Int) (i s : Int) : List Int := onesTo (chZ p xs i s) 62

end Go.Proofs.Ytblbapehakcomaa
