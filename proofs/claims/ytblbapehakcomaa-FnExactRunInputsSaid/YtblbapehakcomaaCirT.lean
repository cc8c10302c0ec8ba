/- Circuits: the model's codes and aims. -/
import Derived.Test.YtblbapehakcomaaCirS
namespace Go.Proofs.Ytblbapehakcomaa
open Go.RowKit
set_option linter.unusedVariables false

/-- the code of a circuit, inputs and states -/
def codeL (p : Int) (xs : List Int) (i : Int) (ss : List Int) : Int := if cirB p xs = true then (if inB i p = true ∧ ∀ k, k < ss.length → inB (ss.getD k 0) xs.length = true then 0 else 2) else 1
theorem codeL_one (p : Int) (xs : List Int) (i s : Int) : codeL p xs i [s] = sitC p xs i s := by
  have e : (∀ k, k < ([s] : List Int).length → inB (([s] : List Int).getD k 0) xs.length = true) ↔ inB s xs.length = true := by
    constructor
    · intro h; exact h 0 (by simp)
    · intro h k hk
      have : k = 0 := by simpa using hk
      subst this; exact h
  unfold codeL sitC
  simp only [e]
theorem inB_pred {i n : Int} : inB i n = decide (0 ≤ i ∧ i ≤ rcZ n - 1) := by
  unfold inB; rw [decide_eq_decide]; omega

set_option maxRecDepth 100000 in
set_option maxHeartbeats 2000000 in
theorem l06Code_any (p i : Int) (v vs : Value) (xs ss : List Int) (w : World) (ha : Reads w v xs) (hs : Reads w vs ss) {c : Int} (hc : codeL p xs i ss = c) :
    Calls Try.prog 58 #[.agg #[.int .i64 p, v], .int .i64 i, vs] w fun e w' => e = .returned (.int .i64 c) ∧ Below w.heap.size w w' := by
  obtain ⟨b, hb⟩ : ∃ b, cirB p xs = b := ⟨_, rfl⟩
  have HC := Lib.hid (fun w' (h : Below w.heap.size w w') => l06Is_any p v xs w' (ha.keep h) hb)
  obtain ⟨bs, cs, rfl, hms, hs'⟩ := hs
  unfold maxLen at hms
  cases b
  · have HR : Hid (c = 1) := by rw [Hid, ← hc]; unfold codeL; simp [hb]
    obtain ⟨a, ca, rfl, hm, _⟩ := ha
    have k0 := C2.here w (.int .i64 p) (.slice a xs.length ca) 27
    clear hc hb
    generalize xs.length = n at *
    generalize ss.length = m at *
    go_enter Try.func58, Try.ntmps58
    go_wp2_with ((go_at_call 52; (with_reducible refine (HC.out _ (by go_grown)).mono ?_); rintro e w' ⟨rfl, hb⟩; have hL := chain (B := w.heap.size) (a := w) (by go_grown) (Nat.le_refl _) hb; (first | replace k0 := keepAt hb k0 | replace k0 := keepAt hb (C2.alloc k0 _)); clear hb))
    go_ret
    exact ⟨by rw [HR.out]; rfl, hL⟩
  · obtain ⟨⟨p1, p4⟩, ⟨n1, n4⟩, _, _⟩ := cirB_out hb
    obtain ⟨b1, hb1⟩ : ∃ b, inB i p = b := ⟨_, rfl⟩
    have hq := rcZ_bd p1 (show p ≤ 5 by omega)
    have hq2 := rcZ_bd (show 1 ≤ (xs.length : Int) by omega) (show (xs.length : Int) ≤ 5 by omega)
    have HI := Lib.hid (fun w => l01In_b i 0 (rcZ p - 1) w (b := b1) (by rw [← inB_pred]; exact hb1))
    have HRow := Lib.hid (fun w => l01Rows_any p w p1 (by omega))
    have HSt := Lib.hid (fun w' (h : Below w.heap.size w w') => l06States_any p v xs w' (ha.keep h) n1 n4)
    obtain ⟨j, hj, hno, hyes⟩ := firstB (fun k => !(inB (ss.getD k 0) xs.length)) ss.length
    have HNo := Lib.hid (fun k (hk : k < j) (w : World) => l01In_b (ss.getD k 0) 0 (rcZ xs.length - 1) w (b := true) (by rw [← inB_pred]; have := hno k hk; simpa using this))
    have HYes := Lib.hid (fun (hk : j < ss.length) (w : World) => l01In_b (ss.getD j 0) 0 (rcZ xs.length - 1) w (b := false) (by rw [← inB_pred]; have := hyes hk; simpa using this))
    have HE : Hid ((b1 = false → c = 2) ∧ (j < ss.length → c = 2) ∧ (b1 = true → ¬ j < ss.length → c = 0)) := by
      refine ⟨fun h => ?_, fun h => ?_, fun h h2 => ?_⟩
      · rw [← hc]; unfold codeL; rw [if_pos hb, if_neg (by rw [hb1, h]; simp)]
      · rw [← hc]; unfold codeL; rw [if_pos hb, if_neg (by
          rintro ⟨_, h3⟩
          have h4 := hyes h
          rw [h3 j h] at h4; cases h4)]
      · rw [← hc]; unfold codeL; rw [if_pos hb, if_pos ⟨by rw [hb1, h], fun k hk => by have := hno k (by omega); simpa using this⟩]
    have Ha : Hid (∀ i, i < ss.length → ∃ b off, bs = some ⟨b, off, none⟩ ∧ w.cell? ⟨b, off + i, none⟩ = some (.int .i64 (ss.getD i 0))) := by
      rcases hs' with rfl | ⟨b, off, rfl, hs'⟩
      · intro i hi; simp at hi
      · intro i hi; exact ⟨b, off, rfl, hs' i hi⟩
    obtain ⟨a, ca, rfl, hm, _⟩ := ha
    have k0 := C2.here w (.int .i64 p) (.slice a xs.length ca) 27
    clear hc hb hb1 hno hyes hs'
    have hz0 : 0 ≤ rcZ p - 1 ∧ rcZ p - 1 < 100 := by omega
    generalize hqq : rcZ p = q at *
    generalize hqs : rcZ xs.length = qs at *
    clear hqq hqs
    have HSum : Hid (IntKind.i64.wrap (qs - 1) = qs - 1) := IntWalk.i64_in _ (by omega)
    generalize xs.length = n at *
    generalize hmm : ss.length = m at *
    clear hmm
    cases b1
    · have HR := Lib.hid (HE.out.1 rfl)
      go_enter Try.func58, Try.ntmps58
      go_wp2_with (first | (go_at_call 52; (with_reducible refine (HC.out _ (by go_grown)).mono ?_); rintro e w' ⟨rfl, hb⟩; have hL := chain (B := w.heap.size) (a := w) (by go_grown) (Nat.le_refl _) hb; (first | replace k0 := keepAt hb k0 | replace k0 := keepAt hb (C2.alloc k0 _)); clear hb) | (go_at_call 80; (with_reducible refine (HRow.out _).mono ?_); rintro e w' ⟨rfl, rfl⟩) | (go_at_call 74; (with_reducible refine (HI.out _).mono ?_); rintro e w' ⟨rfl, rfl⟩))
      go_ret
      exact ⟨by rw [HR.out]; rfl, hL⟩
    · have HF := Lib.hid HE.out.2.1
      have HT := Lib.hid (HE.out.2.2 rfl)
      clear HE
      go_enter Try.func58, Try.ntmps58
      go_wp2_with (first | (go_at_call 52; (with_reducible refine (HC.out _ (by go_grown)).mono ?_); rintro e w' ⟨rfl, hb⟩; have hL := chain (B := w.heap.size) (a := w) (by go_grown) (Nat.le_refl _) hb; (first | replace k0 := keepAt hb k0 | replace k0 := keepAt hb (C2.alloc k0 _)); clear hb) | (go_at_call 80; (with_reducible refine (HRow.out _).mono ?_); rintro e w' ⟨rfl, rfl⟩) | (go_at_call 74; (with_reducible refine (HI.out _).mono ?_); rintro e w' ⟨rfl, rfl⟩))
      go_loopw [7] (fun c wr => ∃ k : Nat, k ≤ j ∧ c = .int .i64 (k : Int) ∧ Below w.heap.size w wr ∧ C2 wr w.heap.size (.int .i64 p) (.slice a n ca)) (fun c _ => m - (intOf c).toNat)
      case atStart => exact ⟨0, Nat.zero_le _, rfl, by go_grown, k0⟩
      case round =>
        clear k0 hL
        obtain ⟨k, hk, rfl, hL, k0⟩ := hrel
        by_cases hlt : k < m
        · obtain ⟨b2, off, rfl, hca0⟩ := Ha.out k hlt
          have hca := cell_later hL hca0
          have hi1 : (k : Int) < (m : Int) := by omega
          have hi0 : (0 : Int) ≤ (k : Int) := by omega
          by_cases hkj : k < j
          · have HIn := Lib.hid (HNo.out k hkj)
            clear hca0
            generalize ss.getD k 0 = x at *
            go_wp2_with fail
            have hsum := HSum.out
            go_region_held3 (fun w' => C2 w' w.heap.size (.int .i64 p) (.slice a n ca) ∧ w'.cell? ⟨b2, off + k, none⟩ = some (.int .i64 x)) ((refine ⟨?_, ?_⟩ <;> first | ((repeat' (first | (with_reducible assumption) | (with_reducible refine C2.drewU ?_) | (with_reducible refine C2.alloc ?_ _) | (with_reducible refine C2.set ?_ _ _ _ (by omega)))); done) | assumption)) (first | (go_at_call 64; (with_reducible refine (HSt.out _ (by go_grown)).mono ?_); rintro e w1 ⟨rfl, hb⟩; have hL := chain (B := w.heap.size) (a := w) (by go_grown) (Nat.le_refl _) hb; replace k0 := keepAt hb (show C2 _ w.heap.size (.int .i64 p) (.slice a n ca) from by (repeat' (first | (with_reducible assumption) | (with_reducible refine C2.drewU ?_) | (with_reducible refine C2.alloc ?_ _) | (with_reducible refine C2.set ?_ _ _ _ (by omega))))); replace hca := cell_later hb (by first | exact hca | assumption); clear hb) | (go_at_call 74; (with_reducible refine (HIn.out _).mono ?_); rintro e w' ⟨rfl, rfl⟩))
            all_goals (clear hsum)
            all_goals (go_wp2_with fail)
            exact ⟨⟨k + 1, by omega, by go_num, hL, k0⟩, by simp [intOf]; omega⟩
          · have e : k = j := by omega
            rw [e] at hca hi0 hi1 hlt
            have HIn := Lib.hid (HYes.out hlt)
            have HR := Lib.hid (HF.out hlt)
            rw [e]
            clear e hca0 hkj hk
            generalize ss.getD j 0 = x at *
            go_wp2_with fail
            have hsum := HSum.out
            go_region_held3 (fun w' => C2 w' w.heap.size (.int .i64 p) (.slice a n ca) ∧ w'.cell? ⟨b2, off + j, none⟩ = some (.int .i64 x)) ((refine ⟨?_, ?_⟩ <;> first | ((repeat' (first | (with_reducible assumption) | (with_reducible refine C2.drewU ?_) | (with_reducible refine C2.alloc ?_ _) | (with_reducible refine C2.set ?_ _ _ _ (by omega)))); done) | assumption)) (first | (go_at_call 64; (with_reducible refine (HSt.out _ (by go_grown)).mono ?_); rintro e w1 ⟨rfl, hb⟩; have hL := chain (B := w.heap.size) (a := w) (by go_grown) (Nat.le_refl _) hb; replace k0 := keepAt hb (show C2 _ w.heap.size (.int .i64 p) (.slice a n ca) from by (repeat' (first | (with_reducible assumption) | (with_reducible refine C2.drewU ?_) | (with_reducible refine C2.alloc ?_ _) | (with_reducible refine C2.set ?_ _ _ _ (by omega))))); replace hca := cell_later hb (by first | exact hca | assumption); clear hb) | (go_at_call 74; (with_reducible refine (HIn.out _).mono ?_); rintro e w' ⟨rfl, rfl⟩))
            all_goals (clear hsum)
            all_goals (go_wp2_with fail)
            go_ret
            exact ⟨by rw [HR.out]; rfl, hL⟩
        · have HR := Lib.hid (HT.out (by omega))
          go_wp2_with fail
          go_ret
          exact ⟨by rw [HR.out]; rfl, hL⟩

set_option maxRecDepth 100000 in
set_option maxHeartbeats 2000000 in
theorem l06Aim_any (p i s : Int) (v : Value) (xs : List Int) (w : World) (ha : Reads w v xs) (hc : cirB p xs = true) (hi : inB i p = true) (hs : inB s xs.length = true) :
    Calls Try.prog 59 #[.agg #[.int .i64 p, v], .int .i64 i, .int .i64 s] w fun e w' => e = .returned (.int .i64 (aimZ p xs i s)) ∧ Below w.heap.size w w' := by
  obtain ⟨⟨p1, p4⟩, ⟨n1, n4⟩, h5, hcs⟩ := cirB_out hc
  have hrow := row_bd ⟨p1, p4⟩ (show 1 ≤ (xs.length : Int) ∧ (xs.length : Int) ≤ 4 by omega) h5 hi hs
  have hst := state_bd (show 1 ≤ (xs.length : Int) ∧ (xs.length : Int) ≤ 4 by omega) hs
  have hib := inB_out hi
  obtain ⟨r, hr⟩ : ∃ r, (rowZ p i s).toNat = r := ⟨_, rfl⟩
  have HAim : Hid (aimZ p xs i s = ((aimTo xs r xs.length : Nat) : Int)) := by rw [Hid, ← hr]; rfl
  have hr32 : r < 32 := by omega
  have e1 : i + rcZ p * s = (r : Int) := by unfold rowZ at *; omega
  have HRow : Hid (wrap64 (i + wrap64 (rcZ p * s)) = (r : Int)) := by
    have h0 : 0 ≤ rcZ p * s ∧ rcZ p * s ≤ 32 := ⟨Int.mul_nonneg (by have := rcZ_bd p1 (show p ≤ 5 by omega); omega) hst.1, by omega⟩
    have e3 : wrap64 (rcZ p * s) = rcZ p * s := IntWalk.wrap64_in _ (by omega)
    rw [Hid, e3, e1, IntWalk.wrap64_in _ (by omega)]
  have HRC := Lib.hid (fun w => l01Rows_any p w p1 (by omega))
  have HD : Hid (∀ k, k < xs.length → bits .and .i64 (xs.getD k 0 / 2 ^ r) 1 = digZ (xs.getD k 0) (r : Int)) := fun k hk => by
    have := digit_walk (xs.getD k 0) (r : Int) (hcs k hk).1 (by have := hcs k hk; have := fullZ_bd (show 1 ≤ p + (xs.length : Int) by omega) h5; omega) (by omega)
    rwa [Int.toNat_natCast] at this
  have HSt := Lib.hid (fun k (hk : k < xs.length) => aimTo_step xs r k (by omega))
  obtain ⟨a, ca, rfl, hm, ha'⟩ := ha
  unfold maxLen at hm
  have Ha : Hid (∀ i, i < xs.length → ∃ b off, a = some ⟨b, off, none⟩ ∧ w.cell? ⟨b, off + i, none⟩ = some (.int .i64 (xs.getD i 0))) := by
    rcases ha' with rfl | ⟨b, off, rfl, ha'⟩
    · intro i hi; simp at hi
    · intro i hi; exact ⟨b, off, rfl, ha' i hi⟩
  have hA0 : aimTo xs r 0 = 0 := rfl
  have k0 := C2.here w (.int .i64 p) (.slice a xs.length ca) 27
  clear ha' hr hcs hrow hst hib hi hs hc e1
  generalize rcZ p = q at *
  generalize hnn : xs.length = n at *
  clear hnn
  go_enter Try.func59, Try.ntmps59
  go_wp2_with ((go_at_call 80; (with_reducible refine (HRC.out _).mono ?_); rintro e w' ⟨rfl, rfl⟩))
  rw [HRow.out]
  go_loopw [8, 9] (fun u c wr => ∃ k : Nat, k ≤ n ∧ c = .int .i64 (k : Int) ∧ u = .int .i64 ((aimTo xs r k : Nat) : Int) ∧ Below w.heap.size w wr ∧ C2 wr w.heap.size (.int .i64 p) (.slice a n ca)) (fun _ c _ => n - (intOf c).toNat)
  case atStart => exact ⟨0, Nat.zero_le _, rfl, (by rw [hA0]; rfl), by go_grown, k0⟩
  case round =>
    clear hA0 k0
    obtain ⟨k, hk, rfl, rfl, hL, k0⟩ := hrel
    by_cases hlt : k < n
    · obtain ⟨b, off, rfl, hca0⟩ := Ha.out k hlt
      have hca := cell_later hL hca0
      have HDk := Lib.hid (HD.out k hlt)
      have HSk := Lib.hid (HSt.out k hlt)
      have hi1 : (k : Int) < (n : Int) := by omega
      have hi0 : (0 : Int) ≤ (k : Int) := by omega
      clear hca0
      generalize aimTo xs r k = y at *
      generalize xs.getD k 0 = x at *
      go_wp2_with fail
      rw [HDk.out, HSk.out]
      exact ⟨⟨k + 1, by omega, by go_num, rfl, hL, k0⟩, by simp [intOf]; omega⟩
    · have e : k = n := by omega
      rw [e]
      clear e
      go_wp2_with fail
      go_ret
      exact ⟨by rw [HAim.out]; rfl, hL⟩

set_option maxRecDepth 100000 in
set_option maxHeartbeats 2000000 in
theorem l06Change_any (p i s : Int) (v : Value) (xs : List Int) (w : World) (ha : Reads w v xs) (hc : cirB p xs = true) (hi : inB i p = true) (hs : inB s xs.length = true) :
    Calls Try.prog 62 #[.agg #[.int .i64 p, v], .int .i64 i, .int .i64 s] w fun e w' => ∃ u, e = .returned u ∧ Owns w' w.heap.size u (chL p xs i s) ∧ Below w.heap.size w w' := by
  obtain ⟨_, ⟨n1, n4⟩, h5, hcs⟩ := cirB_out hc
  have hst := state_bd (show 1 ≤ (xs.length : Int) ∧ (xs.length : Int) ≤ 4 by omega) hs
  have HX := Lib.hid (chZ_xor (p := p) (xs := xs) (i := i) n4 hst)
  have hcb := chZ_bd (p := p) (xs := xs) (i := i) n4 hst
  have HA := Lib.hid (fun w' (h : Below w.heap.size w w') => l06Aim_any p i s v xs w' (ha.keep h) hc hi hs)
  have HM := Lib.hid (fun w' => l02List_any (chZ p xs i s) w' hcb.1 (by omega))
  obtain ⟨a, ca, rfl, hm, ha'⟩ := ha
  clear hcs hst hcb hi hs hc
  generalize aimZ p xs i s = y at *
  have HL : Hid (onesTo (chZ p xs i s) 62 = chL p xs i s) := rfl
  generalize chZ p xs i s = z at *
  have k0 := C2.here w (.int .i64 p) (.slice a xs.length ca) 27
  generalize xs.length = n at *
  go_enter Try.func62, Try.ntmps62
  go_wp2_with fail
  refine (HA.out _ (by go_grown)).mono ?_
  rintro e w1 ⟨rfl, hb⟩
  have hL := chain (B := w.heap.size) (a := w) (by go_grown) (Nat.le_refl _) hb
  have hs1 := hL.size
  clear hb k0
  go_wp2_with fail
  rw [HX.out]
  refine (HM.out _).mono ?_
  rintro e w2 ⟨u, rfl, ou, hb⟩
  have hL2 := chain (B := w.heap.size) (a := w) hL (Nat.le_refl _) hb
  clear hb
  go_wp2_with fail
  go_ret
  exact ⟨u, rfl, by rw [← HL.out]; exact ou.mono hs1, hL2⟩

end Go.Proofs.Ytblbapehakcomaa
