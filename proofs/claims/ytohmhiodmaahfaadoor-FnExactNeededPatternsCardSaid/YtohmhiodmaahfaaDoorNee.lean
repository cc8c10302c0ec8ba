/- NeededPatterns: both contracts. -/
import Derived.Test.YtohmhiodmaahfaaDoorNdP
import Derived.Test.YtohmhiodmaahfaaDoorPrc
namespace Go.Proofs.YtohmhiodmaahfaaDoor
open Go.RowKit
set_option linter.unusedVariables false

/-- what NeededPatterns gives -/
def nee (n v : Int) : List ByteArray × Int := if isTab n v = true then (neededL (primesL v n.toNat) (2 ^ n.toNat), 0) else ([], 1)
theorem nee_in {n v : Int} (h : isTab n v = true) : nee n v = (neededL (primesL v n.toNat) (2 ^ n.toNat), 0) := if_pos h
theorem nee_out {n v : Int} (h : isTab n v = false) : nee n v = ([], 1) := if_neg (by rw [h]; decide)
def resNeededPatterns_0 (n v : Int) : List ByteArray := (nee n v).1
def resNeededPatterns_1 (n v : Int) : Int := (nee n v).2
theorem neededL_len (v : Int) {n : Nat} (h : n ≤ 5) (M : Nat) : (neededL (primesL v n) M).length ≤ 243 := by
  have h1 := primesL_len v h
  have h2 := neededTo_len (primesL v n) M (primesL v n).length
  rw [neededTo_all] at h2
  omega
theorem lenNeededPatterns_0 (n v : Int) : (resNeededPatterns_0 n v).length ≤ 1000 := by
  unfold resNeededPatterns_0
  cases h : isTab n v
  · rw [nee_out h]; simp
  · rw [nee_in h]
    have := tab_bd h
    have := neededL_len v (n := n.toNat) (by omega) (2 ^ n.toNat)
    show (neededL (primesL v n.toNat) (2 ^ n.toNat)).length ≤ 1000
    omega
theorem C2.lowP {w w' : World} {b B : Nat} {x y : Value} (h : C2 w b x y) (hb : Below B w w') (hB : b < B) : C2 w' b x y := by
  obtain ⟨h0, h1, f0, f1, hz⟩ := h
  have e := hb.block b hB
  have := hb.size
  exact ⟨(World.cell?_of_block (w := w) e).trans h0, (World.cell?_of_block (w := w) e).trans h1, (World.frozen?_of_block (w := w) e).trans f0, (World.frozen?_of_block (w := w) e).trans f1, by omega⟩

set_option maxRecDepth 100000 in
set_option maxHeartbeats 4000000 in
theorem iNeededPatterns_any (n v : Int) (w : World) :
    Calls Tryd.prog 25 #[.agg #[.int .i64 n, .int .i64 v]] w fun e w' => ∃ u, e = .returned (.tuple #[u, .int .i64 (resNeededPatterns_1 n v)]) ∧ OwnsS w' w.heap.size u (resNeededPatterns_0 n v) ∧ Below w.heap.size w w' := by
  unfold resNeededPatterns_0 resNeededPatterns_1
  have k0 := C2.here w (.int .i64 n) (.int .i64 v) 29
  cases ht : isTab n v
  · rw [nee_out ht]
    have HT := Lib.hid (fun w => isTable_b n v w ht)
    clear ht
    go_enter Tryd.func25, Tryd.ntmps25
    go_wp2_with ((go_at_call 38; (with_reducible refine (HT.out _).mono ?_); rintro e w' ⟨rfl, hb⟩; have hL := chain (B := w.heap.size) (a := w) (by go_grown) (Nat.le_refl _) hb; (first | replace k0 := keepAt hb k0 | replace k0 := keepAt hb (C2.alloc k0 _)); clear hb))
    go_ret2
    exact ⟨_, rfl, ownsSNil _ _, hL⟩
  · rw [nee_in ht]
    have HT := Lib.hid (fun w => isTable_b n v w ht)
    obtain ⟨n1, n5, v0, v1⟩ := tab_bd ht
    have HP := Lib.hid (fun w => primePatterns_any n v w n1 n5 v0 v1)
    have hlen := primesL_len v (n := n.toNat) (by omega)
    have hlen2 := neededL_len v (n := n.toNat) (by omega) (2 ^ n.toNat)
    have HX : Hid (∀ (u : Value) (w : World), RdP w u (neededL (primesL v n.toNat) (2 ^ n.toNat)) → Calls Tryd.prog 49 #[u, .int .i64 n] w fun e w' => ∃ q, e = .returned q ∧ OwnsS w' w.heap.size q (neededL (primesL v n.toNat) (2 ^ n.toNat)) ∧ Below w.heap.size w w') := fun u w hu => by
      have := patternTexts_any u (neededL (primesL v n.toNat) (2 ^ n.toNat)) n.toNat w hu (by omega) (by omega) (fun s hs => (primesL_mem s (List.mem_filter.1 hs).1).1)
      rw [show ((n.toNat : Nat) : Int) = n by omega] at this
      exact this
    have HRO : Hid (∀ (u : Value) (w : World), RdP w u (primesL v n.toNat) → Calls Tryd.prog 52 #[u, .int .i64 n] w fun e w' => e = .returned (.int .i64 ((aloneN (primesL v n.toNat) (2 ^ n.toNat) : Nat) : Int)) ∧ Below w.heap.size w w') := fun u w hu => rowsUnderOne_any u _ n w hu (by omega) n1 n5
    have HD : Hid (∀ (tb ab base : Nat) (q : Value) (w : World), OwnsP w base q (primesL v n.toNat) → tb < base → (∀ g, q.ownBlock = some g → ab ≠ g) → C2 w tb (.int .i64 n) (.int .i64 v) → w.cell? ⟨ab, 0, none⟩ = some (.int .i64 ((aloneN (primesL v n.toNat) (2 ^ n.toNat) : Nat) : Int)) → ab < w.heap.size → base ≤ w.heap.size → Calls Tryd.prog 54 #[q, .func (.func 53) #[] #[.pointer (some ⟨tb, 0, none⟩), .pointer (some ⟨ab, 0, none⟩)]] w fun e w' => ∃ q', e = .returned q' ∧ RdP w' q' (neededL (primesL v n.toNat) (2 ^ n.toNat)) ∧ Below base w w') :=
      fun tb ab base q w h1 h2 h3 h4 h5 h6 h7 => delPat_any _ n v tb ab base q w n1 n5 (by omega) h1 h2 h3 h4 h5 h6 h7
    clear ht hlen hlen2
    generalize aloneN (primesL v n.toNat) (2 ^ n.toNat) = Z at *
    generalize neededL (primesL v n.toNat) (2 ^ n.toNat) = D at *
    generalize primesL v n.toNat = L at *
    go_enter Tryd.func25, Tryd.ntmps25
    go_wp2_with ((go_at_call 38; (with_reducible refine (HT.out _).mono ?_); rintro e w' ⟨rfl, hb⟩; have hL := chain (B := w.heap.size) (a := w) (by go_grown) (Nat.le_refl _) hb; (first | replace k0 := keepAt hb k0 | replace k0 := keepAt hb (C2.alloc k0 _)); clear hb))
    refine (HP.out _).mono ?_
    rintro e w2 ⟨q, rfl, ho, hb⟩
    have hz1 := hL.size
    have hkz := k0.2.2.2.2
    have hL2 := chain (B := w.heap.size) (a := w) hL (by omega) hb
    replace k0 := keepAt hb k0
    have HO := Lib.hid (ho.monoB (b' := w.heap.size + 1) (by omega))
    have HRd := Lib.hid ho.rd
    obtain ⟨qa, qc, rfl, _⟩ := ho.rd
    clear hb ho hL
    go_wp2_with ((go_at_call 52; (refine (HRO.out _ _ HRd.out).mono ?_); rintro e w3 ⟨rfl, hb⟩))
    have hL3 := chain (B := w.heap.size) (a := w) hL2 (by omega) hb
    replace k0 := keepAt hb k0
    have HO3 := Lib.hid (HO.out.keep hb)
    have HNE : Hid (∀ g, (Value.slice qa L.length qc).ownBlock = some g → w3.heap.size ≠ g) := fun g hg => by
      have := HO.out.lt g hg
      have := hb.size
      omega
    clear hb HO HRd HRO HP HT
    have hz3 := hL3.size
    have k4 := k0.alloc (.cells #[.int .i64 (Z : Int)] 2)
    have hL4 : Below w.heap.size w (w3.alloc (.cells #[.int .i64 (Z : Int)] 2)) := hL3.alloc hz3 _
    have HO4 : Hid (OwnsP (w3.alloc (.cells #[.int .i64 (Z : Int)] 2)) (w.heap.size + 1) (.slice qa L.length qc) L) := HO3.out.keep ((Below.refl _ _).alloc (Nat.le_refl _) _)
    have kz : (w3.alloc (.cells #[.int .i64 (Z : Int)] 2)).cell? ⟨w3.heap.size, 0, none⟩ = some (.int .i64 (Z : Int)) := by rw [World.cell?_alloc_at _ _ _ _ rfl]; rfl
    have hz4 : w3.heap.size < (w3.alloc (.cells #[.int .i64 (Z : Int)] 2)).heap.size := by simp
    clear hL3 k0 HO3
    have hb4 : w.heap.size + 1 ≤ (w3.alloc (.cells #[.int .i64 (Z : Int)] 2)).heap.size := by rw [World.size_alloc]; omega
    have HD4 := Lib.hid (fun wx (h1 : OwnsP wx (w.heap.size + 1) (.slice qa L.length qc) L) h4 h5 h6 h7 => HD.out w.heap.size w3.heap.size (w.heap.size + 1) (.slice qa L.length qc) wx h1 (by omega) HNE.out h4 h5 h6 h7)
    clear HD HNE
    go_wp2_with fail
    go_cut [2, 3] (fun s2 s3 wx => s3 = .int .i64 0 ∧ Hid (OwnsS wx w.heap.size s2 D) ∧ Hid (Below w.heap.size w wx))
    case first =>
      go_region_with (first | (go_at_call 54; (go_loud (refine (HD4.out _ (by exact HO4.out) (by exact k4) (by exact kz) (by exact hz4) (by exact hb4)).mono ?_)); go_loud (rintro e w5 ⟨q5, rfl, hRd, hb⟩; have hL5 : Below w.heap.size w w5 := Below.trans (by first | exact hL4 | exact Bdrew hL4 1) (hb.mono (Nat.le_succ _)); replace k4 := C2.lowP (x := .int .i64 n) (y := .int .i64 v) (b := w.heap.size) (by exact k4) hb (Nat.lt_succ_self _); have hz5 := hL5.size; obtain ⟨ra, rc, rfl, _⟩ := id hRd; clear hb hL4)) | (go_at_call 49; go_loud ((refine (HX.out _ _ (by first | exact hRd | exact (show RdP _ _ _ from hRd))).mono ?_); rintro e w6 ⟨q6, rfl, ho6, hb⟩; have HO6 := Lib.hid (ho6.monoB hz5); have HL6 := Lib.hid (chain (B := w.heap.size) (a := w) (by first | exact hL5 | exact Bdrew hL5 1 | go_grown) (Nat.le_refl _) hb); clear hb ho6)))
      all_goals (go_wp2_with fail; go_meet; exact ⟨rfl, HO6.out, HL6.out⟩)
    case rest =>
    obtain ⟨rfl, hO, hLw⟩ := hcut
    obtain ⟨sa, sc, rfl, _⟩ := hO.out.rd
    go_wp2_with fail
    go_ret2
    exact ⟨_, rfl, hO.out, hLw.out⟩

end Go.Proofs.YtohmhiodmaahfaaDoor
