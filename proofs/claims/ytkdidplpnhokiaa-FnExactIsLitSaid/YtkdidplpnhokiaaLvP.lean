/- The live terminals of a wiring: the program's walk. -/
import Derived.Test.YtkdidplpnhokiaaLvL
namespace Go.Proofs.Ytkdidplpnhokiaa
open Go.RowKit
set_option linter.unusedVariables false

theorem broken_cl {L : List (List Int)} {m : Nat} {pos : Int} {B : Nat} (hL : L.length ≤ 60) (hm : m ≤ 16) (hB : B < 2 ^ m) (i : Nat) (hi : i < L.length) :
    JW.inB (((setOf (clB L pos) L.length &&& (2 ^ 63 - 1 - B) : Nat) : Int)) i = true ↔ clB L pos i = true ∧ (i < m → B.testBit i = false) := by
  have hB2 : B < 65536 := Nat.lt_of_lt_of_le hB (Nat.pow_le_pow_right (n := 2) (by decide) hm)
  unfold JW.inB
  rw [decide_eq_true_iff, Int.toNat_natCast, dig_testBit, andNot_bit hB2 (by omega)]
  have e : (setOf (clB L pos) L.length).testBit i = clB L pos i := by
    have h1 := setOf_dig (clB L pos) hi
    rw [dig_testBit] at h1
    cases h2 : (setOf (clB L pos) L.length).testBit i <;> cases h3 : clB L pos i <;> rw [h2, h3] at h1 <;> first | rfl | cases h1
  rw [e]
  have hz : m ≤ i → B.testBit i = false := fun h => Nat.testBit_lt_two_pow (Nat.lt_of_lt_of_le hB (Nat.pow_le_pow_right (by decide) h))
  by_cases hmi : i < m
  · cases clB L pos i <;> cases B.testBit i <;> simp [hmi]
  · rw [hz (by omega)]
    cases clB L pos i <;> simp [hmi]

set_option maxHeartbeats 1000000 in
theorem liveTerminals_any (v : Value) (xs : List Int) (yss : List (List Int)) (pos : Int) (B : Nat) (w : World) (ha : ReadsC w v (leadsL xs yss)) (hs : SwOk xs) (hy : Wires22 yss) (h16 : yss.length ≤ 16) (p0 : 0 ≤ pos) (p1 : pos < 32) (hB : B < 2 ^ yss.length) {z : Nat} (hz : liveN (wirE xs yss B.testBit pos) 0 = z) :
    Calls Try.prog 76 #[v, .int .i64 pos, .int .i64 (B : Int)] w fun e w' => e = .returned (.int .i64 (z : Int)) ∧ Below w.heap.size w w' := by
  obtain ⟨hp, h2⟩ := leads_pts hs hy
  have hn : (leadsL xs yss).length ≤ 60 := by rw [leads_len]; have := swC_len hs; omega
  have HCL := Lib.hid (closedInRow_w v (leadsL xs yss) pos w ha hn h2 p0 (by omega))
  have hB2 : B < 65536 := Nat.lt_of_lt_of_le hB (Nat.pow_le_pow_right (n := 2) (by decide) h16)
  have hset : setOf (clB (leadsL xs yss) pos) (leadsL xs yss).length < 1152921504606846976 := Nat.lt_of_lt_of_le (setOf_lt _ _) (Nat.pow_le_pow_right (n := 2) (by decide) hn)
  obtain ⟨K, hK⟩ : ∃ K : Nat, setOf (clB (leadsL xs yss) pos) (leadsL xs yss).length &&& (2 ^ 63 - 1 - B) = K := ⟨_, rfl⟩
  have hAN := andNot_w hset hB2
  have hKlt : K < 9223372036854775808 := by rw [← hK]; exact Nat.lt_of_le_of_lt Nat.and_le_left (by omega)
  have hres : JW.joinS (leadsL xs yss) (JW.inB (K : Int)) 0 = z := by
    rw [joinS_eq hp _ (by decide), ← hz]
    refine liveN_congr (fun a b => leads_E B.testBit hs p0 p1 _ (fun i hi => ?_) a b) 0
    rw [← hK]
    exact broken_cl hn h16 hB i hi
  have HJ : Hid (∀ w', Below w.heap.size w w' → Calls Try.prog 120 #[v, .int .i64 (K : Int), .int .i64 0] w' fun e w'' => e = .returned (.int .i64 (z : Int)) ∧ Below w'.heap.size w' w'') := fun w' h => by
    have := JW.joinedWith_any v (leadsL xs yss) (K : Int) 0 (JW.inB (K : Int)) w' (ha.keep h) hn (by omega) (by omega) hp (fun i w hi => JW.digitAt_inB (n := 60) (by omega) (by omega) (by omega) i w (by omega))
    rw [show (0 : Int).toNat = 0 from rfl, hres] at this
    exact this
  unfold closedS at HCL
  rw [hK] at hAN
  clear hK hset hres hKlt hp h2 hn hz
  generalize setOf (clB (leadsL xs yss) pos) (leadsL xs yss).length = S at *
  obtain ⟨a, ca, rfl, _, _⟩ := ha
  generalize (leadsL xs yss).length = n at *
  obtain ⟨kz, hkz⟩ : ∃ kz : Int, (K : Int) = kz := ⟨_, rfl⟩
  rw [hkz] at HJ hAN
  obtain ⟨bz, hbz⟩ : ∃ bz : Int, (B : Int) = bz := ⟨_, rfl⟩
  rw [hbz] at hAN ⊢
  obtain ⟨sz, hsz⟩ : ∃ sz : Int, (S : Int) = sz := ⟨_, rfl⟩
  rw [hsz] at hAN HCL
  clear hkz hbz hsz hB hB2
  go_enter Try.func76, Try.ntmps76
  go_wp2_with fail
  refine HCL.out.mono ?_
  rintro e w1 ⟨rfl, hb⟩
  go_wp2_with fail
  refine (HJ.out _ hb).mono ?_
  rintro e w2 ⟨rfl, hb2⟩
  have hL := chain (B := w.heap.size) (a := w) hb (Nat.le_refl _) hb2
  go_wp2_with fail
  go_ret
  exact ⟨rfl, hL⟩

end Go.Proofs.Ytkdidplpnhokiaa
