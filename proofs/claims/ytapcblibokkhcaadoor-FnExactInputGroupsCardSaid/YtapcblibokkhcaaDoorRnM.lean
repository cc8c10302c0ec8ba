/- Inputs renamed by a list: mathematics. -/
import Derived.Test.YtapcblibokkhcaaDoorAlB
import Derived.Test.YtapcblibokkhcaaDoorSPart
namespace Go.Proofs.YtapcblibokkhcaaDoor
open Go.RowKit
set_option linter.unusedVariables false

/-- the row that a row comes from when the inputs are renamed by a list: its first i digits -/
def rowR (ps : List Int) (k i : Nat) : Int := buildZ (fun a => dig (k : Int).toNat (ps.getD a 0).toNat) i
theorem rowR_step {ps : List Int} {k i : Nat} {x : Int} (hx : ps.getD i 0 = x) (h0 : 0 ≤ x) (hi : i < 32) : bits .or .i64 (rowR ps k i) (wrap64 (digZ (k : Int) x * 2 ^ i)) = rowR ps k (i + 1) :=
  build_stepZ (k : Int) (fun a => (ps.getD a 0).toNat) i x hi h0 (by rw [hx])
theorem rowR_bd {ps : List Int} {k N : Nat} (hN : N ≤ 5) : 0 ≤ rowR ps k N ∧ rowR ps k N ≤ 62 := by
  unfold rowR buildZ
  have h := build_lt (fun a => dig (k : Int).toNat (ps.getD a 0).toNat) N
  have := pow5 hN
  omega
/-- the values with the inputs renamed, in the first k rows -/
def renTo (v : Int) (ps : List Int) (N k : Nat) : Int := buildZ (fun r => dig v.toNat (rowR ps r N).toNat) k
theorem renTo_step (v : Int) {ps : List Int} {N k : Nat} (hN : N ≤ 5) (hk : k < 32) : bits .or .i64 (renTo v ps N k) (wrap64 (digZ v (rowR ps k N) * 2 ^ k)) = renTo v ps N (k + 1) :=
  build_stepZ v (fun r => (rowR ps r N).toNat) k (rowR ps k N) hk (rowR_bd hN).1 rfl

/-- the numbers below N with i and j exchanged -/
def swL (N i j : Nat) : List Int := ((iota 0 N).set i (j : Int)).set j (i : Int)
theorem swL_len (N i j : Nat) : (swL N i j).length = N := by simp [swL, iota_len]
theorem swL_fin : ∀ (n : Fin 6) (i j : Fin 5) (k : Fin 32), i.val < n.val → j.val < n.val → k.val < 2 ^ n.val → build (fun a => dig ((k.val : Nat) : Int).toNat ((swL n.val i.val j.val).getD a 0).toNat) n.val = swp i.val j.val k.val := by decide +kernel
theorem swL_at : ∀ (n : Fin 6) (i j a : Fin 5), i.val < n.val → j.val < n.val → a.val < n.val → 0 ≤ (swL n.val i.val j.val).getD a.val 0 ∧ (swL n.val i.val j.val).getD a.val 0 < 5 := by decide +kernel
theorem swL_row {N i j k : Nat} (hN : N ≤ 5) (hi : i < N) (hj : j < N) (hk : k < 2 ^ N) : (rowR (swL N i j) k N).toNat = swp i j k := by
  have := pow5 hN
  unfold rowR buildZ
  rw [Int.toNat_natCast]
  exact swL_fin ⟨N, by omega⟩ ⟨i, by omega⟩ ⟨j, by omega⟩ ⟨k, by omega⟩ hi hj hk
theorem ren_alike {v : Int} {N i j : Nat} (hN : N ≤ 5) (hi : i < N) (hj : j < N) (h0 : 0 ≤ v) (hv : v.toNat < 2 ^ 2 ^ N) : (renTo v (swL N i j) N (2 ^ N) = v) ↔ AlS v.toNat N i j := by
  have hd : ∀ k, k < 2 ^ N → dig (renTo v (swL N i j) N (2 ^ N)).toNat k = dig v.toNat (swp i j k) := fun k hk => by
    unfold renTo buildZ
    rw [Int.toNat_natCast, build_dig _ hk, dig_mod, swL_row hN hi hj hk]
  constructor
  · intro h k hk
    rw [← hd k hk, h]
  · intro h
    have e : (renTo v (swL N i j) N (2 ^ N)).toNat = v.toNat := by
      refine dig_ext ?_ hv fun k hk => (hd k hk).trans (h k hk)
      unfold renTo buildZ
      rw [Int.toNat_natCast]; exact build_lt _ _
    have : 0 ≤ renTo v (swL N i j) N (2 ^ N) := by unfold renTo buildZ; omega
    omega

end Go.Proofs.YtapcblibokkhcaaDoor
