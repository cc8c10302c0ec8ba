/- The part of a table for an input and a value: the program's and the model's. -/
import Derived.Test.YtkdidplpnhokiaaTf
import Derived.Shelf.Abstract
namespace Go.Proofs.Ytkdidplpnhokiaa
open Go.RowKit
set_option linter.unusedVariables false

/-- the row in which the input i has a value, and the others what they have in the row k -/
def partRow (i value k : Int) : Int := bits .or .i64 (bits .andNot .i64 k (wrap64 (2 ^ i.toNat))) (wrap64 (value * 2 ^ i.toNat))
theorem partRow_fin : ∀ (n : Fin 6) (i : Fin 5) (v : Fin 2) (k : Fin 32), i.val < n.val → k.val < 2 ^ n.val → 0 ≤ partRow (i.val : Int) (v.val : Int) (k.val : Int) ∧ partRow (i.val : Int) (v.val : Int) (k.val : Int) < ((2 ^ n.val : Nat) : Int) := by
  decide +kernel
theorem partRow_bd {n i value : Int} {k : Nat} (n5 : n ≤ 5) (i0 : 0 ≤ i) (in_ : i < n) (v0 : 0 ≤ value) (v1 : value ≤ 1) (hk : k < 2 ^ n.toNat) : 0 ≤ partRow i value k ∧ partRow i value k < ((2 ^ n.toNat : Nat) : Int) := by
  obtain ⟨N, rfl⟩ := Int.eq_ofNat_of_zero_le (show 0 ≤ n by omega)
  obtain ⟨I, rfl⟩ := Int.eq_ofNat_of_zero_le i0
  obtain ⟨V, rfl⟩ := Int.eq_ofNat_of_zero_le v0
  rw [Int.toNat_natCast] at *
  have h32 : 2 ^ N ≤ 2 ^ 5 := Nat.pow_le_pow_right (by decide) (by omega)
  exact partRow_fin ⟨N, by omega⟩ ⟨I, by omega⟩ ⟨V, by omega⟩ ⟨k, by omega⟩ (show I < N by omega) hk

/-- the number of the part's values -/
def partVals (n v i value : Int) : Int := buildZ (fun j => dig v.toNat (partRow i value j).toNat) (2 ^ n.toNat)

theorem partClos_any (i value k : Int) (bi bv : Nat) (w : World) (i0 : 0 ≤ i) (i5 : i ≤ 4) (v0 : 0 ≤ value) (v1 : value ≤ 1)
    (hi : w.cell? ⟨bi, 0, none⟩ = some (.int .i64 i)) (hv : w.cell? ⟨bv, 0, none⟩ = some (.int .i64 value)) :
    Calls Try.prog 123 #[.int .i64 k, .pointer (some ⟨bi, 0, none⟩), .pointer (some ⟨bv, 0, none⟩)] w fun e w' => e = .returned (.int .i64 (partRow i value k)) ∧ Below w.heap.size w w' := by
  go_enter Try.func123, Try.ntmps123
  go_wp2_with fail
  go_quiet (fail)
  go_wp2
  go_ret
  exact ⟨rfl, Bdrew (Below.refl _ _) _⟩

set_option maxRecDepth 100000 in
theorem part_any (n v i value : Int) (w : World) (n1 : 1 ≤ n) (n5 : n ≤ 5) (h0 : 0 ≤ v) (hv : v < 9223372036854775808) (i0 : 0 ≤ i) (in_ : i < n) (v0 : 0 ≤ value) (v1 : value ≤ 1) :
    Calls Try.prog 85 #[.agg #[.int .i64 n, .int .i64 v], .int .i64 i, .int .i64 value] w fun e w' => e = .returned (.agg #[.int .i64 n, .int .i64 (partVals n v i value)]) ∧ Below w.heap.size w w' := by
  have hci : ((((w.alloc (.cells #[.int .i64 n, .int .i64 v] 44)).alloc (.cells #[.int .i64 i] 2)).alloc (.cells #[.int .i64 value] 2)).alloc (.cells #[.int .i64 0, .int .i64 0] 44)).cell? ⟨w.heap.size + 1, 0, none⟩ = some (.int .i64 i) := by
    rw [World.cell?_alloc_past _ _ _ (by simp), World.cell?_alloc_past _ _ _ (by simp), World.cell?_alloc_at _ _ _ _ (by simp)]; rfl
  have hcv : ((((w.alloc (.cells #[.int .i64 n, .int .i64 v] 44)).alloc (.cells #[.int .i64 i] 2)).alloc (.cells #[.int .i64 value] 2)).alloc (.cells #[.int .i64 0, .int .i64 0] 44)).cell? ⟨w.heap.size + 1 + 1, 0, none⟩ = some (.int .i64 value) := by
    rw [World.cell?_alloc_past _ _ _ (by simp), World.cell?_alloc_at _ _ _ _ (by simp)]; rfl
  have hk3 := C2.here (((w.alloc (.cells #[.int .i64 n, .int .i64 v] 44)).alloc (.cells #[.int .i64 i] 2)).alloc (.cells #[.int .i64 value] 2)) (.int .i64 0) (.int .i64 0) 44
  simp only [World.size_alloc] at hk3
  have T := fun (wx : World) => tableFrom_any n v n 123 #[.pointer (some ⟨w.heap.size + 1, 0, none⟩), .pointer (some ⟨w.heap.size + 1 + 1, 0, none⟩)] (fun j => (partRow i value j).toNat) wx h0 hv n1 n5
  have HT := Lib.hid T
  clear T
  have Hci := Lib.hid hci
  have Hcv := Lib.hid hcv
  clear hci hcv
  go_enter Try.func85, Try.ntmps85
  go_wp2_with fail
  refine (HT.out _ ?_ ?_ (enters_of Try.func123 (by kernel_rfl) rfl)).mono ?_
  · intro k wx hk hb
    have hbd := partRow_bd n5 i0 in_ v0 v1 hk
    refine (partClos_any i value k _ _ wx i0 (by omega) v0 v1 (cell_later hb Hci.out) (cell_later hb Hcv.out)).mono ?_
    rintro e w' ⟨rfl, hb'⟩
    exact ⟨by rw [Int.toNat_of_nonneg hbd.1], hb'⟩
  · intro k hk
    have hbd := partRow_bd n5 i0 in_ v0 v1 hk
    have h32 : 2 ^ n.toNat ≤ 2 ^ 5 := Nat.pow_le_pow_right (by decide) (by omega)
    omega
  rintro e w1 ⟨rfl, hb⟩
  have hL := chain (B := w.heap.size) (a := w) (by go_grown) (Nat.le_refl _) hb
  replace hk3 := keepAt hb hk3
  go_wp2_with fail
  refine bodyPost_ret (v := .agg #[.int .i64 n, .int .i64 (buildZ (fun j => dig v.toNat (partRow i value (j : Int)).toNat) (2 ^ n.toNat))]) (by simp [results, Try.results85, go_sem, *]) rfl ?_
  exact ⟨rfl, by go_grown⟩

end Go.Proofs.Ytkdidplpnhokiaa
