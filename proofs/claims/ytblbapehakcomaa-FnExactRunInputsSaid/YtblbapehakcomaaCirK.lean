/- Circuits: the program's aims and relays that will change. -/
import Derived.Test.YtblbapehakcomaaCirJ
namespace Go.Proofs.Ytblbapehakcomaa
open Go.RowKit
set_option linter.unusedVariables false

set_option maxHeartbeats 1000000 in
theorem situationError_any (p i s : Int) (v : Value) (xs : List Int) (w : World) (ha : Reads w v xs) {c : Int} (hc : sitC p xs i s = c) :
    Calls Try.prog 60 #[.agg #[.int .i64 p, v], .int .i64 i, .int .i64 s] w fun e w' => e = .returned (.int .i64 c) ∧ Below w.heap.size w w' := by
  obtain ⟨b, hb⟩ : ∃ b, cirB p xs = b := ⟨_, rfl⟩
  have HC := Lib.hid (fun w' (h : Below w.heap.size w w') => isCircuit_any p v xs w' (ha.keep h) hb)
  cases b
  · have HR : Hid (c = 1) := by rw [Hid, ← hc]; exact sitC_inv hb
    obtain ⟨a, ca, rfl, hm, _⟩ := ha
    have k0 := C2.here w (.int .i64 p) (.slice a xs.length ca) 27
    clear hc hb
    generalize xs.length = n at *
    go_enter Try.func60, Try.ntmps60
    go_wp2_with ((go_at_call 18; (with_reducible refine (HC.out _ (by go_grown)).mono ?_); rintro e w' ⟨rfl, hb⟩; have hL := chain (B := w.heap.size) (a := w) (by go_grown) (Nat.le_refl _) hb; (first | replace k0 := keepAt hb k0 | replace k0 := keepAt hb (C2.alloc k0 _)); clear hb))
    go_ret
    exact ⟨by rw [HR.out]; rfl, hL⟩
  · obtain ⟨⟨p1, p4⟩, ⟨n1, n4⟩, _, _⟩ := cirB_out hb
    obtain ⟨b1, hb1⟩ : ∃ b, inB i p = b := ⟨_, rfl⟩
    obtain ⟨b2, hb2⟩ : ∃ b, inB s xs.length = b := ⟨_, rfl⟩
    have HI := Lib.hid (fun w' (h : Below w.heap.size w w') => areInputs_any p i v xs w' (ha.keep h) p1 (by omega) hb1)
    have HS := Lib.hid (fun w' (h : Below w.heap.size w w') => isState_any p s v xs w' (ha.keep h) n1 (by omega) hb2)
    have HR : Hid (c = if b1 = true ∧ b2 = true then 0 else 2) := by
      rw [Hid, ← hc, ← hb1, ← hb2]; unfold sitC; rw [if_pos hb]
    obtain ⟨a, ca, rfl, hm, _⟩ := ha
    have k0 := C2.here w (.int .i64 p) (.slice a xs.length ca) 27
    clear hc hb hb1 hb2
    generalize xs.length = n at *
    cases b1 <;> cases b2 <;>
    · go_enter Try.func60, Try.ntmps60
      go_wp2_with (first | (go_at_call 18; (with_reducible refine (HC.out _ (by go_grown)).mono ?_); rintro e w' ⟨rfl, hb⟩; have hL := chain (B := w.heap.size) (a := w) (by go_grown) (Nat.le_refl _) hb; (first | replace k0 := keepAt hb k0 | replace k0 := keepAt hb (C2.alloc k0 _)); clear hb) | (go_at_call 65; (with_reducible refine (HI.out _ (by go_grown)).mono ?_); rintro e w' ⟨rfl, hb⟩; have hL := chain (B := w.heap.size) (a := w) (by go_grown) (Nat.le_refl _) hb; (first | replace k0 := keepAt hb k0 | replace k0 := keepAt hb (C2.alloc k0 _)); clear hb) | (go_at_call 78; (with_reducible refine (HS.out _ (by go_grown)).mono ?_); rintro e w' ⟨rfl, hb⟩; have hL := chain (B := w.heap.size) (a := w) (by go_grown) (Nat.le_refl _) hb; (first | replace k0 := keepAt hb k0 | replace k0 := keepAt hb (C2.alloc k0 _)); clear hb))
      go_ret
      exact ⟨by rw [HR.out]; rfl, hL⟩

set_option maxRecDepth 100000 in
set_option maxHeartbeats 2000000 in
theorem aimIn_any (p i s : Int) (v : Value) (xs : List Int) (w : World) (ha : Reads w v xs) (hc : cirB p xs = true) (hi : inB i p = true) (hs : inB s xs.length = true) :
    Calls Try.prog 61 #[.agg #[.int .i64 p, v], .agg #[.int .i64 i, .int .i64 s]] w fun e w' => e = .returned (.int .i64 (aimZ p xs i s)) ∧ Below w.heap.size w w' := by
  obtain ⟨⟨p1, p4⟩, ⟨n1, n4⟩, h5, hcs⟩ := cirB_out hc
  have hrow := row_bd ⟨p1, p4⟩ (show 1 ≤ (xs.length : Int) ∧ (xs.length : Int) ≤ 4 by omega) h5 hi hs
  have hst := state_bd (show 1 ≤ (xs.length : Int) ∧ (xs.length : Int) ≤ 4 by omega) hs
  have hib := inB_out hi
  obtain ⟨r, hr⟩ : ∃ r, (rowZ p i s).toNat = r := ⟨_, rfl⟩
  have HAim : Hid (aimZ p xs i s = ((aimTo xs r xs.length : Nat) : Int)) := by rw [Hid, ← hr]; rfl
  have HRow : Hid (wrap64 (i + wrap64 (s * 2 ^ p.toNat)) = (r : Int)) := by
    have e1 : rowZ p i s = (r : Int) := by omega
    have e2 : s * 2 ^ p.toNat = rcZ p * s := by unfold rcZ; rw [Int.mul_comm]; simp
    have h0 : 0 ≤ rcZ p * s ∧ rcZ p * s ≤ 32 := by
      unfold rowZ at hrow
      exact ⟨Int.mul_nonneg (by have := rcZ_bd p1 (show p ≤ 5 by omega); omega) hst.1, by omega⟩
    have e3 : wrap64 (rcZ p * s) = rcZ p * s := IntWalk.wrap64_in _ (by omega)
    rw [Hid, e2, e3, ← e1]
    unfold rowZ at *
    rw [IntWalk.wrap64_in _ (by omega)]
  have hr32 : r < 32 := by omega
  have HD := Lib.hid (fun k (hk : k < xs.length) (w : World) => digitAt_any (xs.getD k 0) (r : Int) w (hcs k hk).1 (by have := hcs k hk; have := fullZ_bd (show 1 ≤ p + (xs.length : Int) by omega) h5; omega) (by omega) (by omega))
  have HSt := Lib.hid (fun k (hk : k < xs.length) => aimTo_step xs r k (by omega))
  obtain ⟨a, ca, rfl, hm, ha'⟩ := ha
  unfold maxLen at hm
  have Ha : Hid (∀ i, i < xs.length → ∃ b off, a = some ⟨b, off, none⟩ ∧ w.cell? ⟨b, off + i, none⟩ = some (.int .i64 (xs.getD i 0))) := by
    rcases ha' with rfl | ⟨b, off, rfl, ha'⟩
    · intro i hi; simp at hi
    · intro i hi; exact ⟨b, off, rfl, ha' i hi⟩
  have hA0 : aimTo xs r 0 = 0 := rfl
  have k0 : C2 ((w.alloc (.cells #[.int .i64 p, .slice a xs.length ca] 27)).alloc (.cells #[.int .i64 i, .int .i64 s] 68)) (w.heap.size) (.int .i64 p) (.slice a xs.length ca) := by simpa using (C2.here w (.int .i64 p) (.slice a xs.length ca) 27).alloc (.cells #[.int .i64 i, .int .i64 s] 68)
  have k1 : C2 ((w.alloc (.cells #[.int .i64 p, .slice a xs.length ca] 27)).alloc (.cells #[.int .i64 i, .int .i64 s] 68)) (w.heap.size + 1) (.int .i64 i) (.int .i64 s) := by simpa using C2.here (w.alloc (.cells #[.int .i64 p, .slice a xs.length ca] 27)) (.int .i64 i) (.int .i64 s) 68
  clear ha' hr hcs hrow hst hib hi hs hc
  generalize hnn : xs.length = n at *
  clear hnn
  go_enter Try.func61, Try.ntmps61
  go_wp2_with fail
  go_quiet (fail)
  rw [HRow.out]
  go_wp2_with fail
  go_loopw [6, 20] (fun u c wr => ∃ k : Nat, k ≤ n ∧ c = .int .i64 (k : Int) ∧ u = .int .i64 ((aimTo xs r k : Nat) : Int) ∧ Below w.heap.size w wr) (fun _ c _ => n - (intOf c).toNat)
  case atStart => exact ⟨0, Nat.zero_le _, rfl, (by rw [hA0]; rfl), Bdrew (by go_grown) _⟩
  case round =>
    clear hA0
    clear k0 k1
    obtain ⟨k, hk, rfl, rfl, hL⟩ := hrel
    by_cases hlt : k < n
    · obtain ⟨b, off, rfl, hca0⟩ := Ha.out k hlt
      have hca := cell_later hL hca0
      have HDk := Lib.hid (HD.out k hlt)
      have HSk := Lib.hid (HSt.out k hlt)
      have hi1 : (k : Int) < (n : Int) := by omega
      have hi0 : (0 : Int) ≤ (k : Int) := by omega
      clear hca0
      generalize aimTo xs r k = y at *
      generalize xs.getD k 0 = x at *
      go_wp2_with ((go_at_call 92; (with_reducible refine (HDk.out _).mono ?_); rintro e w' ⟨rfl, rfl⟩))
      go_roundw
      case rel => exact ⟨k + 1, by omega, by go_num, by rw [← HSk.out], hL⟩
      case measure => simp [intOf]; omega
    · have e : k = n := by omega
      rw [e]
      clear e
      go_wp2_with fail
      go_ret
      exact ⟨by rw [HAim.out]; rfl, hL⟩

set_option maxRecDepth 100000 in
set_option maxHeartbeats 2000000 in
theorem changingIn_any (p i s : Int) (v : Value) (xs : List Int) (w : World) (ha : Reads w v xs) (hc : cirB p xs = true) (hi : inB i p = true) (hs : inB s xs.length = true) :
    Calls Try.prog 63 #[.agg #[.int .i64 p, v], .agg #[.int .i64 i, .int .i64 s]] w fun e w' => ∃ u, e = .returned u ∧ Owns w' w.heap.size u (chL p xs i s) ∧ Below w.heap.size w w' := by
  obtain ⟨⟨p1, p4⟩, ⟨n1, n4⟩, h5, hcs⟩ := cirB_out hc
  have hst := state_bd (show 1 ≤ (xs.length : Int) ∧ (xs.length : Int) ≤ 4 by omega) hs
  have HX := Lib.hid (chZ_xor (p := p) (xs := xs) (i := i) n4 hst)
  have hcb := chZ_bd (p := p) (xs := xs) (i := i) n4 hst
  have HA := Lib.hid (fun w' (h : Below w.heap.size w w') => aimIn_any p i s v xs w' (ha.keep h) hc hi hs)
  have HM := Lib.hid (fun w' => membersOf_any (chZ p xs i s) w' hcb.1 (by omega))
  obtain ⟨a, ca, rfl, hm, ha'⟩ := ha
  clear hcs hst hcb hi hs hc
  generalize aimZ p xs i s = y at *
  have HL : Hid (onesTo (chZ p xs i s) 62 = chL p xs i s) := rfl
  generalize chZ p xs i s = z at *
  have k0 : C2 ((w.alloc (.cells #[.int .i64 p, .slice a xs.length ca] 27)).alloc (.cells #[.int .i64 i, .int .i64 s] 68)) (w.heap.size) (.int .i64 p) (.slice a xs.length ca) := by simpa using (C2.here w (.int .i64 p) (.slice a xs.length ca) 27).alloc (.cells #[.int .i64 i, .int .i64 s] 68)
  have k1 : C2 ((w.alloc (.cells #[.int .i64 p, .slice a xs.length ca] 27)).alloc (.cells #[.int .i64 i, .int .i64 s] 68)) (w.heap.size + 1) (.int .i64 i) (.int .i64 s) := by simpa using C2.here (w.alloc (.cells #[.int .i64 p, .slice a xs.length ca] 27)) (.int .i64 i) (.int .i64 s) 68
  generalize xs.length = n at *
  go_enter Try.func63, Try.ntmps63
  go_wp2_with fail
  go_region_held3 (fun w' => C2 w' w.heap.size (.int .i64 p) (.slice a n ca) ∧ C2 w' (w.heap.size + 1) (.int .i64 i) (.int .i64 s)) ((refine ⟨?_, ?_⟩ <;> ((repeat' (first | (with_reducible assumption) | (with_reducible refine C2.drewU ?_) | (with_reducible refine C2.alloc ?_ _) | (with_reducible refine C2.set ?_ _ _ _ (by omega)))); done))) (first | (go_at_call 61; (with_reducible refine (HA.out _ (by go_grown)).mono ?_); rintro e w1 ⟨rfl, hb⟩; have hL := chain (B := w.heap.size) (a := w) (by go_grown) (Nat.le_refl _) hb; replace k0 := keepAt hb (show C2 _ w.heap.size (.int .i64 p) (.slice a n ca) from by (repeat' (first | (with_reducible assumption) | (with_reducible refine C2.drewU ?_) | (with_reducible refine C2.alloc ?_ _) | (with_reducible refine C2.set ?_ _ _ _ (by omega))))); replace k1 := keepAt hb (show C2 _ (w.heap.size + 1) (.int .i64 i) (.int .i64 s) from by (repeat' (first | (with_reducible assumption) | (with_reducible refine C2.drewU ?_) | (with_reducible refine C2.alloc ?_ _) | (with_reducible refine C2.set ?_ _ _ _ (by omega))))); have hs1 := hL.size; clear hb) | (go_at_call 94; rw [HX.out]; (with_reducible refine (HM.out _).mono ?_); rintro e w2 ⟨u, rfl, ou, hb⟩; have hL := chain (B := w.heap.size) (a := w) (by go_grown) (Nat.le_refl _) hb; replace k0 := keepAt hb (show C2 _ w.heap.size (.int .i64 p) (.slice a n ca) from by (repeat' (first | (with_reducible assumption) | (with_reducible refine C2.drewU ?_) | (with_reducible refine C2.alloc ?_ _) | (with_reducible refine C2.set ?_ _ _ _ (by omega))))); replace k1 := keepAt hb (show C2 _ (w.heap.size + 1) (.int .i64 i) (.int .i64 s) from by (repeat' (first | (with_reducible assumption) | (with_reducible refine C2.drewU ?_) | (with_reducible refine C2.alloc ?_ _) | (with_reducible refine C2.set ?_ _ _ _ (by omega))))); clear hb))
  all_goals (go_wp2_with fail)
  go_ret
  exact ⟨u, rfl, by rw [← HL.out]; exact ou.mono (by first | exact hs1 | (simp; omega)), hL⟩

set_option maxRecDepth 100000 in
set_option maxHeartbeats 2000000 in
theorem isSteady_any (p i s : Int) (v : Value) (xs : List Int) (w : World) (ha : Reads w v xs) (hc : cirB p xs = true) (hi : inB i p = true) (hs : inB s xs.length = true) :
    Calls Try.prog 95 #[.agg #[.int .i64 p, v], .agg #[.int .i64 i, .int .i64 s]] w fun e w' => e = .returned (.bool (aimZ p xs i s == s)) ∧ Below w.heap.size w w' := by
  have HA := Lib.hid (fun w' (h : Below w.heap.size w w') => aimIn_any p i s v xs w' (ha.keep h) hc hi hs)
  obtain ⟨a, ca, rfl, hm, ha'⟩ := ha
  clear hi hs hc
  generalize aimZ p xs i s = y at *
  have k0 : C2 ((w.alloc (.cells #[.int .i64 p, .slice a xs.length ca] 27)).alloc (.cells #[.int .i64 i, .int .i64 s] 68)) (w.heap.size) (.int .i64 p) (.slice a xs.length ca) := by simpa using (C2.here w (.int .i64 p) (.slice a xs.length ca) 27).alloc (.cells #[.int .i64 i, .int .i64 s] 68)
  have k1 : C2 ((w.alloc (.cells #[.int .i64 p, .slice a xs.length ca] 27)).alloc (.cells #[.int .i64 i, .int .i64 s] 68)) (w.heap.size + 1) (.int .i64 i) (.int .i64 s) := by simpa using C2.here (w.alloc (.cells #[.int .i64 p, .slice a xs.length ca] 27)) (.int .i64 i) (.int .i64 s) 68
  generalize xs.length = n at *
  go_enter Try.func95, Try.ntmps95
  go_wp2_with fail
  go_region_held3 (fun w' => C2 w' w.heap.size (.int .i64 p) (.slice a n ca) ∧ C2 w' (w.heap.size + 1) (.int .i64 i) (.int .i64 s)) ((refine ⟨?_, ?_⟩ <;> ((repeat' (first | (with_reducible assumption) | (with_reducible refine C2.drewU ?_) | (with_reducible refine C2.alloc ?_ _) | (with_reducible refine C2.set ?_ _ _ _ (by omega)))); done))) ((go_at_call 61; (with_reducible refine (HA.out _ (by go_grown)).mono ?_); rintro e w1 ⟨rfl, hb⟩; have hL := chain (B := w.heap.size) (a := w) (by go_grown) (Nat.le_refl _) hb; replace k0 := keepAt hb (show C2 _ w.heap.size (.int .i64 p) (.slice a n ca) from by (repeat' (first | (with_reducible assumption) | (with_reducible refine C2.drewU ?_) | (with_reducible refine C2.alloc ?_ _) | (with_reducible refine C2.set ?_ _ _ _ (by omega))))); replace k1 := keepAt hb (show C2 _ (w.heap.size + 1) (.int .i64 i) (.int .i64 s) from by (repeat' (first | (with_reducible assumption) | (with_reducible refine C2.drewU ?_) | (with_reducible refine C2.alloc ?_ _) | (with_reducible refine C2.set ?_ _ _ _ (by omega))))); have hs1 := hL.size; clear hb))
  go_wp2_with fail
  go_ret
  exact ⟨by simp, hL⟩

/-- the steady states among the first k -/
def stdTo (p : Int) (xs : List Int) (i : Int) (k : Nat) : List Int := ((List.range k).filter fun (j : Nat) => aimZ p xs i (j : Int) == (j : Int)).map fun (j : Nat) => (j : Int)
theorem stdTo_hit {p : Int} {xs : List Int} {i : Int} {k : Nat} (h : (aimZ p xs i (k : Int) == (k : Int)) = true) : stdTo p xs i (k + 1) = stdTo p xs i k ++ [(k : Int)] := by
  simp [stdTo, List.range_succ, h]
theorem stdTo_miss {p : Int} {xs : List Int} {i : Int} {k : Nat} (h : (aimZ p xs i (k : Int) == (k : Int)) = false) : stdTo p xs i (k + 1) = stdTo p xs i k := by
  simp [stdTo, List.range_succ, h]
theorem stdTo_len (p : Int) (xs : List Int) (i : Int) (k : Nat) : (stdTo p xs i k).length ≤ k := by
  have := List.length_filter_le (fun (j : Nat) => aimZ p xs i (j : Int) == (j : Int)) (List.range k)
  simpa [stdTo] using this

set_option maxRecDepth 100000 in
set_option maxHeartbeats 2000000 in
theorem steadyStates_any (p i : Int) (v : Value) (xs : List Int) (w : World) (ha : Reads w v xs) (hc : cirB p xs = true) (hi : inB i p = true) :
    Calls Try.prog 66 #[.agg #[.int .i64 p, v], .int .i64 i] w fun e w' => ∃ u, e = .returned u ∧ Owns w' w.heap.size u (stdTo p xs i (2 ^ xs.length)) ∧ Below w.heap.size w w' := by
  obtain ⟨i0, hi0, hz0, hz1, hz2⟩ := info_parts info64
  obtain ⟨_, ⟨n1, n4⟩, _, _⟩ := cirB_out hc
  obtain ⟨M, hM⟩ : ∃ M, 2 ^ xs.length = M := ⟨_, rfl⟩
  have hM16 : M ≤ 16 := by rw [← hM]; exact Nat.pow_le_pow_right (by decide) n4
  have HIn : Hid (∀ k : Nat, k < M → inB (k : Int) xs.length = true) := fun k hk => by
    unfold inB rcZ; rw [Int.toNat_natCast, hM]; exact decide_eq_true (by omega)
  have HC : Hid (∀ w', Below w.heap.size w w' → Calls Try.prog 82 #[.agg #[.int .i64 p, v]] w' fun e w'' => e = .returned (.int .i64 (M : Int)) ∧ Below w'.heap.size w' w'') := fun w' h => by
    have := stateCount_any p v xs w' (ha.keep h) n1 (by omega)
    unfold rcZ at this; rw [Int.toNat_natCast, hM] at this; exact this
  have HS := Lib.hid (fun (k : Nat) (hk : k < M) w' (h : Below w.heap.size w w') => isSteady_any p i (k : Int) v xs w' (ha.keep h) hc hi (HIn.out k hk))
  rw [hM]
  obtain ⟨a, ca, rfl, hm, ha'⟩ := ha
  have k0 := C2.here w (.int .i64 p) (.slice a xs.length ca) 27
  have hS0 : stdTo p xs i 0 = [] := rfl
  clear hi hc hM ha'
  generalize xs.length = n at *
  go_enter Try.func66, Try.ntmps66
  go_wp2_with ((go_at_call 82; (with_reducible refine (HC.out _ (by go_grown)).mono ?_); rintro e w' ⟨rfl, hb⟩; have hL := chain (B := w.heap.size) (a := w) (by go_grown) (Nat.le_refl _) hb; (first | replace k0 := keepAt hb k0 | replace k0 := keepAt hb (C2.alloc k0 _)); clear hb))
  go_loopw [5, 9] (fun u c wr => ∃ k : Nat, k ≤ M ∧ c = .int .i64 (k : Int) ∧ Below w.heap.size w wr ∧ C2 wr w.heap.size (.int .i64 p) (.slice a n ca) ∧ Owns wr (w.heap.size + 1) u (stdTo p xs i k)) (fun _ c _ => M - (intOf c).toNat)
  case atStart => exact ⟨0, Nat.zero_le _, rfl, hL, k0, by rw [hS0]; exact World.ownsRow_nil _ _ _ _⟩
  case round =>
    clear k0 hL
    obtain ⟨k, hk, rfl, hL, k0, oo⟩ := hrel
    by_cases hlt : k < M
    · have hk1 : (k : Int) < (M : Int) := by omega
      have HSk := Lib.hid (HS.out k hlt)
      have hkb := k0.2.2.2.2
      cases hq : (aimZ p xs i (k : Int) == (k : Int))
      · have Hn := Lib.hid (stdTo_miss hq)
        rw [hq] at HSk
        clear hq
        go_wp2_with (go_at_call 95; (with_reducible refine (HSk.out _ (by go_grown)).mono ?_); rintro e w1 ⟨rfl, hb⟩; replace hL := chain (B := w.heap.size) (a := w) hL (Nat.le_refl _) hb; replace k0 := keepAt hb k0; replace oo := ownsKeepAt hb oo; clear hb)
        exact ⟨⟨k + 1, by omega, by go_num, hL, k0, by rw [Hn.out]; exact oo⟩, by simp [intOf]; omega⟩
      · have Hn := Lib.hid (stdTo_hit hq)
        have Hl := Lib.hid (stdTo_len p xs i k)
        rw [hq] at HSk
        clear hq
        go_wp2_with fail
        refine (HSk.out _ hL).mono ?_
        rintro e w1 ⟨rfl, hb⟩
        replace hL := chain (B := w.heap.size) (a := w) hL (Nat.le_refl _) hb
        replace k0 := keepAt hb k0
        replace oo := ownsKeepAt hb oo
        clear hb
        have hz' := hL.size
        have hfrom := oo.rowsFrom (B := w.heap.size) (by omega)
        have hsep := oo.notBlock (b := w.heap.size) (by omega)
        have hkb1 := k0.2.2.2.2
        go_wp2_with (at_builtin; refine wpList_append_own _ rfl _ _ 22 rfl (w.heap.size + 1) 2 i0 (.int .i64 0) 1 8 Try.underlying22 hi0 hz0 hz1 hz2 rfl (by decide) _ _ _ rfl (World.ownsRow.alloc oo _) ⟨w1.heap.size, 0, none⟩ 1 1 [.int .i64 (k : Int)] rfl rfl (cell_one_new _ _ _) (by simp [Value.oneCell']) (by have := Hl.out; unfold maxLen; omega) (by have := Hl.out; omega) (by have := hL.size; simp; omega) ?_; intro v' w2 hown' hgrow hnil)
        exact ⟨⟨k + 1, by omega, by go_num, (hL.alloc (by omega) _).grown hgrow (by simp; omega) hfrom, (k0.alloc _).grown hgrow hsep, by rw [Hn.out]; exact Owns.snoc hown'⟩, by simp [intOf]; omega⟩
    · have e : k = M := by omega
      rw [e] at oo
      clear e
      have hkn : ¬ (k : Int) < (M : Int) := by omega
      go_wp2_with fail
      go_ret
      exact ⟨_, rfl, oo.mono (by omega), hL⟩

end Go.Proofs.Ytblbapehakcomaa
