/- Circuits: the model's contracts. -/
import Derived.Test.YtblbapehakcomaaCirM
import Derived.Test.YtblbapehakcomaaCoF
import Derived.Test.YtblbapehakcomaaAt
import Derived.Test.YtblbapehakcomaaSets
import Derived.Test.YtblbapehakcomaaTool
import Derived.Deep.RegionWith
import Derived.Deep.RegionHeld3
import Derived.Deep.DeepCutAuto
namespace Go.Proofs.Ytblbapehakcomaa
open Go.RowKit
set_option linter.unusedVariables false

theorem l01In_b (n lo hi : Int) (w : World) {b : Bool} (hb : decide (lo ≤ n ∧ n ≤ hi) = b) :
    Calls Try.prog 74 #[.int .i64 n, .int .i64 lo, .int .i64 hi] w fun e w' => e = .returned (.bool b) ∧ w = w' := hb ▸ l01In_any n lo hi w

theorem reads_one (w : World) (x : Int) (t : TypeId) : Reads (w.alloc (.cells #[.int .i64 x] t)) (.slice (some ⟨w.heap.size, 0, none⟩) 1 1) [x] := by
  refine ⟨some ⟨w.heap.size, 0, none⟩, 1, rfl, by simp [maxLen], .inr ⟨w.heap.size, 0, rfl, fun i hi => ?_⟩⟩
  have e : i = 0 := by simpa using hi
  subst e
  rw [World.cell?_alloc_at _ _ _ _ rfl]; rfl

set_option maxRecDepth 100000 in
set_option maxHeartbeats 2000000 in
theorem l06Is_any (p : Int) (v : Value) (xs : List Int) (w : World) (ha : Reads w v xs) {b : Bool} (hb : cirB p xs = b) :
    Calls Try.prog 52 #[.agg #[.int .i64 p, v]] w fun e w' => e = .returned (.bool b) ∧ Below w.heap.size w w' := by
  obtain ⟨s1, hs1⟩ : ∃ s, decide (1 ≤ p ∧ p ≤ 4) = s := ⟨_, rfl⟩
  obtain ⟨s2, hs2⟩ : ∃ s, decide (1 ≤ (xs.length : Int) ∧ (xs.length : Int) ≤ 4) = s := ⟨_, rfl⟩
  have HS1 := Lib.hid (fun w => l01In_b p 1 4 w hs1)
  have HS2 := Lib.hid (fun w => l01In_b (xs.length : Int) 1 4 w hs2)
  obtain ⟨j, hj, hno, hyes⟩ := firstB (fun k => !(decide (0 ≤ xs.getD k 0 ∧ xs.getD k 0 ≤ fullZ (p + (xs.length : Int))))) xs.length
  have HB : Hid (s1 = false ∨ s2 = false ∨ 5 < p + (xs.length : Int) → b = false) := by
    intro h
    rw [← hb]
    refine decide_eq_false fun hc => ?_
    obtain ⟨a1, a2, a3, _⟩ := hc
    rcases h with h | h | h
    · rw [← hs1] at h; exact of_decide_eq_false h a1
    · rw [← hs2] at h; exact of_decide_eq_false h (by omega)
    · omega
  have hbd : s1 = true → s2 = true → (1 ≤ p ∧ p ≤ 4) ∧ (1 ≤ (xs.length : Int) ∧ (xs.length : Int) ≤ 4) := fun h h' => ⟨of_decide_eq_true (hs1.trans h), of_decide_eq_true (hs2.trans h')⟩
  have HE : Hid ((j < xs.length → b = false) ∧ (s1 = true → s2 = true → p + (xs.length : Int) ≤ 5 → ¬ j < xs.length → b = true)) := by
    refine ⟨fun h => ?_, fun h1 h2 h3 h => ?_⟩
    · rw [← hb]
      refine decide_eq_false fun hc => ?_
      have h1 := hyes h
      have h2 : decide (0 ≤ xs.getD j 0 ∧ xs.getD j 0 ≤ fullZ (p + (xs.length : Int))) = true := decide_eq_true (hc.2.2.2 j h)
      rw [h2] at h1; cases h1
    · rw [← hb]
      refine decide_eq_true ⟨(hbd h1 h2).1, by have := (hbd h1 h2).2; omega, h3, fun i hi => ?_⟩
      have h4 := hno i (by omega)
      cases h5 : decide (0 ≤ xs.getD i 0 ∧ xs.getD i 0 ≤ fullZ (p + (xs.length : Int)))
      · rw [h5] at h4; cases h4
      · exact of_decide_eq_true h5
  have Hno : Hid (∀ k, k < j → 0 ≤ xs.getD k 0 ∧ xs.getD k 0 ≤ fullZ (p + (xs.length : Int))) := fun k hk => by
    have h4 := hno k hk
    cases h5 : decide (0 ≤ xs.getD k 0 ∧ xs.getD k 0 ≤ fullZ (p + (xs.length : Int)))
    · rw [h5] at h4; cases h4
    · exact of_decide_eq_true h5
  have Hyes : Hid (j < xs.length → ¬ (0 ≤ xs.getD j 0 ∧ xs.getD j 0 ≤ fullZ (p + (xs.length : Int)))) := fun h hh => by
    have h1 := hyes h
    rw [decide_eq_true hh] at h1; cases h1
  obtain ⟨a, ca, rfl, hm, ha'⟩ := ha
  unfold maxLen at hm
  have Ha : Hid (∀ i, i < xs.length → ∃ b off, a = some ⟨b, off, none⟩ ∧ w.cell? ⟨b, off + i, none⟩ = some (.int .i64 (xs.getD i 0))) := by
    rcases ha' with rfl | ⟨b, off, rfl, ha'⟩
    · intro i hi; simp at hi
    · intro i hi; exact ⟨b, off, rfl, ha' i hi⟩
  have k0 := C2.here w (.int .i64 p) (.slice a xs.length ca) 27
  clear hb hs1 hs2 ha' hno hyes
  generalize hnn : xs.length = n at *
  clear hnn
  cases s1
  · have HB1 := Lib.hid (HB.out (.inl rfl))
    clear hbd
    go_enter Try.func52, Try.ntmps52
    go_wp2_with ((go_at_call 74; (with_reducible refine (HS1.out _).mono ?_); rintro e w' ⟨rfl, rfl⟩))
    go_ret
    exact ⟨by rw [HB1.out]; rfl, by go_grown⟩
  · cases s2
    · have HB1 := Lib.hid (HB.out (.inr (.inl rfl)))
      clear hbd
      go_enter Try.func52, Try.ntmps52
      go_wp2_with (first | (go_at_call 74; (with_reducible refine (HS1.out _).mono ?_); rintro e w' ⟨rfl, rfl⟩) | (go_at_call 74; (with_reducible refine (HS2.out _).mono ?_); rintro e w' ⟨rfl, rfl⟩))
      go_ret
      exact ⟨by rw [HB1.out]; rfl, by go_grown⟩
    · obtain ⟨⟨p1, p4⟩, ⟨n1, n4⟩⟩ := hbd rfl rfl
      clear hbd
      by_cases h5 : p + (n : Int) ≤ 5
      · have HT := Lib.hid (HE.out.2 rfl rfl h5)
        have HF := Lib.hid (HE.out.1)
        have HFu := Lib.hid (fun w => l01Full_any (p + (n : Int)) w (by omega) h5)
        have HSum : Hid (IntKind.i64.wrap (p + (n : Int)) = p + (n : Int)) := IntWalk.i64_in _ (by omega)
        clear HE HB
        generalize fullZ (p + (n : Int)) = F at *
        go_enter Try.func52, Try.ntmps52
        go_wp2_with (first | (go_at_call 74; (with_reducible refine (HS1.out _).mono ?_); rintro e w' ⟨rfl, rfl⟩) | (go_at_call 74; (with_reducible refine (HS2.out _).mono ?_); rintro e w' ⟨rfl, rfl⟩))
        go_loopw [4] (fun c wr => ∃ k : Nat, k ≤ j ∧ c = .int .i64 (k : Int) ∧ Below w.heap.size w wr ∧ C2 wr w.heap.size (.int .i64 p) (.slice a n ca)) (fun c _ => n - (intOf c).toNat)
        case atStart => exact ⟨0, Nat.zero_le _, rfl, by go_grown, k0⟩
        case round =>
          clear k0
          obtain ⟨k, hk, rfl, hL, k0⟩ := hrel
          by_cases hlt : k < n
          · obtain ⟨b2, off, rfl, hca0⟩ := Ha.out k hlt
            have hca := cell_later hL hca0
            have hi1 : (k : Int) < (n : Int) := by omega
            have hi0 : (0 : Int) ≤ (k : Int) := by omega
            by_cases hkj : k < j
            · have HI := Lib.hid (fun w => l01In_yes (xs.getD k 0) 0 F w (Hno.out k hkj))
              clear hca0
              generalize xs.getD k 0 = x at *
              go_wp2_with fail
              have hsum := HSum.out
              go_quiet ((first | (go_at_call 88; exact quiet1 (HFu.out _)) | (go_at_call 74; exact quiet1 (HI.out _))))
              clear hsum
              go_wp2_with fail
              exact ⟨⟨k + 1, by omega, by go_num, Bdrew hL _, k0.drewUN _⟩, by simp [intOf]; omega⟩
            · have e : k = j := by omega
              rw [e] at hca hi0 hi1 hlt
              have HI := Lib.hid (fun w => l01In_no (xs.getD j 0) 0 F w (Hyes.out hlt))
              have HR := Lib.hid (HF.out hlt)
              rw [e]
              clear e hca0 hkj hk
              generalize xs.getD j 0 = x at *
              go_wp2_with fail
              have hsum := HSum.out
              go_quiet ((first | (go_at_call 88; exact quiet1 (HFu.out _)) | (go_at_call 74; exact quiet1 (HI.out _))))
              clear hsum
              go_wp2_with fail
              go_ret
              exact ⟨by rw [HR.out]; rfl, Bdrew hL _⟩
          · have HR := Lib.hid (HT.out (by omega))
            go_wp2_with fail
            go_ret
            exact ⟨by rw [HR.out]; rfl, hL⟩
      · have HB1 := Lib.hid (HB.out (.inr (.inr (by omega))))
        go_enter Try.func52, Try.ntmps52
        go_wp2_with (first | (go_at_call 74; (with_reducible refine (HS1.out _).mono ?_); rintro e w' ⟨rfl, rfl⟩) | (go_at_call 74; (with_reducible refine (HS2.out _).mono ?_); rintro e w' ⟨rfl, rfl⟩))
        go_ret
        exact ⟨by rw [HB1.out]; rfl, by go_grown⟩

theorem l06States_any (p : Int) (v : Value) (xs : List Int) (w : World) (ha : Reads w v xs) (h1 : 1 ≤ xs.length) (h4 : xs.length ≤ 4) :
    Calls Try.prog 64 #[.agg #[.int .i64 p, v]] w fun e w' => e = .returned (.int .i64 (rcZ xs.length)) ∧ Below w.heap.size w w' := by
  obtain ⟨a, ca, rfl, hm, _⟩ := ha
  generalize xs.length = n at *
  have : n = 1 ∨ n = 2 ∨ n = 3 ∨ n = 4 := by omega
  rcases this with rfl | rfl | rfl | rfl <;>
  · go_enter Try.func64, Try.ntmps64
    go_wp2
    go_ret
    exact ⟨rfl, by go_grown⟩

end Go.Proofs.Ytblbapehakcomaa
