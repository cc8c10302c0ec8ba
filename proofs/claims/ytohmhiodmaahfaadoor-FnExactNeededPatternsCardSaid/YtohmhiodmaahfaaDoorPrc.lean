/- PrimePatterns: both contracts. -/
import Derived.Test.YtohmhiodmaahfaaDoorPrT
import Derived.Test.YtohmhiodmaahfaaDoorPrL
import Derived.Deep.RegionWith
namespace Go.Proofs.YtohmhiodmaahfaaDoor
open Go.RowKit
set_option linter.unusedVariables false

/-- what PrimePatterns gives -/
def prm (n v : Int) : List ByteArray × Int := if isTab n v = true then (primesL v n.toNat, 0) else ([], 1)
theorem prm_in {n v : Int} (h : isTab n v = true) : prm n v = (primesL v n.toNat, 0) := if_pos h
theorem prm_out {n v : Int} (h : isTab n v = false) : prm n v = ([], 1) := if_neg (by rw [h]; decide)
def resPrimePatterns_0 (n v : Int) : List ByteArray := (prm n v).1
def resPrimePatterns_1 (n v : Int) : Int := (prm n v).2
theorem lenPrimePatterns_0 (n v : Int) : (resPrimePatterns_0 n v).length ≤ 1000 := by
  unfold resPrimePatterns_0
  cases h : isTab n v
  · rw [prm_out h]; simp
  · rw [prm_in h]
    have := tab_bd h
    have := primesL_len v (n := n.toNat) (by omega)
    show (primesL v n.toNat).length ≤ 1000
    omega
theorem ownsSNil (w : World) (b : Nat) : OwnsS w b (.slice none 0 0) [] := World.ownsRow_nil _ _ _ _

set_option maxRecDepth 100000 in
set_option maxHeartbeats 4000000 in
theorem iPrimePatterns_any (n v : Int) (w : World) :
    Calls Tryd.prog 20 #[.agg #[.int .i64 n, .int .i64 v]] w fun e w' => ∃ u, e = .returned (.tuple #[u, .int .i64 (resPrimePatterns_1 n v)]) ∧ OwnsS w' w.heap.size u (resPrimePatterns_0 n v) ∧ Below w.heap.size w w' := by
  unfold resPrimePatterns_0 resPrimePatterns_1
  have k0 := C2.here w (.int .i64 n) (.int .i64 v) 29
  cases ht : isTab n v
  · rw [prm_out ht]
    have HT := Lib.hid (fun w => isTable_b n v w ht)
    clear ht
    go_enter Tryd.func20, Tryd.ntmps20
    go_wp2_with ((go_at_call 38; (with_reducible refine (HT.out _).mono ?_); rintro e w' ⟨rfl, hb⟩; have hL := chain (B := w.heap.size) (a := w) (by go_grown) (Nat.le_refl _) hb; (first | replace k0 := keepAt hb k0 | replace k0 := keepAt hb (C2.alloc k0 _)); clear hb))
    go_ret2
    exact ⟨_, rfl, ownsSNil _ _, hL⟩
  · rw [prm_in ht]
    have HT := Lib.hid (fun w => isTable_b n v w ht)
    obtain ⟨n1, n5, v0, v1⟩ := tab_bd ht
    have HP := Lib.hid (fun w => primePatterns_any n v w n1 n5 v0 v1)
    have hlen := primesL_len v (n := n.toNat) (by omega)
    have HX : Hid (∀ (u : Value) (w : World), RdP w u (primesL v n.toNat) → Calls Tryd.prog 49 #[u, .int .i64 n] w fun e w' => ∃ q, e = .returned q ∧ OwnsS w' w.heap.size q (primesL v n.toNat) ∧ Below w.heap.size w w') := fun u w hu => by
      have := patternTexts_any u (primesL v n.toNat) n.toNat w hu (by omega) (by omega) (fun s hs => (primesL_mem s hs).1)
      rw [show ((n.toNat : Nat) : Int) = n by omega] at this
      exact this
    clear ht hlen
    generalize primesL v n.toNat = L at *
    go_enter Tryd.func20, Tryd.ntmps20
    go_wp2_with ((go_at_call 38; (with_reducible refine (HT.out _).mono ?_); rintro e w' ⟨rfl, hb⟩; have hL := chain (B := w.heap.size) (a := w) (by go_grown) (Nat.le_refl _) hb; (first | replace k0 := keepAt hb k0 | replace k0 := keepAt hb (C2.alloc k0 _)); clear hb))
    have hz := hL.size
    go_cut [2, 3] (fun s2 s3 wx => s3 = .int .i64 0 ∧ Hid (OwnsS wx w.heap.size s2 L) ∧ Hid (Below w.heap.size w wx))
    case first =>
      go_region_with (first | (go_at_call 50; (refine (HP.out _).mono ?_); rintro e w2 ⟨q, rfl, ho, hb⟩; replace hL := chain (B := w.heap.size) (a := w) (by first | exact hL | exact Bdrew hL 1 | go_grown) (Nat.le_refl _) hb; replace k0 := keepAt hb k0; have hz2 := hL.size; have hRd := ho.rd; obtain ⟨qa, qc, rfl, _⟩ := ho.rd; clear hb ho) | (go_at_call 49; (refine (HX.out _ _ (by first | exact hRd | exact (show RdP _ _ _ from hRd))).mono ?_); rintro e w3 ⟨q3, rfl, ho3, hb⟩; have HO3 := Lib.hid (ho3.monoB hz2); have HL3 := Lib.hid (chain (B := w.heap.size) (a := w) (by first | exact hL | exact Bdrew hL 1 | go_grown) (Nat.le_refl _) hb); clear hb ho3))
      all_goals (go_wp2_with fail; go_meet; exact ⟨rfl, HO3.out, HL3.out⟩)
    case rest =>
    obtain ⟨rfl, hO, hLw⟩ := hcut
    obtain ⟨sa, sc, rfl, _⟩ := hO.out.rd
    go_wp2_with fail
    go_ret2
    exact ⟨_, rfl, hO.out, hLw.out⟩

set_option maxRecDepth 100000 in
set_option maxHeartbeats 4000000 in
theorem sPrimePatterns_any (n v : Int) (w : World) :
    Calls Tryd.prog 19 #[.agg #[.int .i64 n, .int .i64 v]] w fun e w' => ∃ u, e = .returned (.tuple #[u, .int .i64 (resPrimePatterns_1 n v)]) ∧ RdS w' u (resPrimePatterns_0 n v) ∧ Below w.heap.size w w' := by
  unfold resPrimePatterns_0 resPrimePatterns_1
  have k0 := C2.here w (.int .i64 n) (.int .i64 v) 29
  cases ht : isTab n v
  · rw [prm_out ht]
    have HT := Lib.hid (fun w => l01Is_b n v w ht)
    clear ht
    go_enter Tryd.func19, Tryd.ntmps19
    go_wp2_with ((go_at_call 35; (with_reducible refine (HT.out _).mono ?_); rintro e w' ⟨rfl, hb⟩; have hL := chain (B := w.heap.size) (a := w) (by go_grown) (Nat.le_refl _) hb; (first | replace k0 := keepAt hb k0 | replace k0 := keepAt hb (C2.alloc k0 _)); clear hb))
    go_ret2
    exact ⟨_, rfl, (ownsSNil _ 0).rd, hL⟩
  · rw [prm_in ht]
    have HT := Lib.hid (fun w => l01Is_b n v w ht)
    obtain ⟨n1, n5, v0, v1⟩ := tab_bd ht
    have HP := Lib.hid (fun w => l08Primes_any n v w n1 n5 v0 v1)
    clear ht
    generalize primesL v n.toNat = L at *
    go_enter Tryd.func19, Tryd.ntmps19
    go_wp2_with ((go_at_call 35; (with_reducible refine (HT.out _).mono ?_); rintro e w' ⟨rfl, hb⟩; have hL := chain (B := w.heap.size) (a := w) (by go_grown) (Nat.le_refl _) hb; (first | replace k0 := keepAt hb k0 | replace k0 := keepAt hb (C2.alloc k0 _)); clear hb))
    refine (HP.out _).mono ?_
    rintro e w2 ⟨q, rfl, ho, hb⟩
    have hL2 := chain (B := w.heap.size) (a := w) hL (Nat.le_refl _) hb
    have hR := Lib.hid ho.rd
    obtain ⟨sa, sc, rfl, _⟩ := ho.rd
    clear hb ho
    go_wp2_with fail
    go_ret2
    exact ⟨_, rfl, hR.out, hL2⟩

end Go.Proofs.YtohmhiodmaahfaaDoor
