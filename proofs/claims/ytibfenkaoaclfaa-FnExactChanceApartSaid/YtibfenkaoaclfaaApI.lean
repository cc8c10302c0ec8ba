/- ChanceApart: the program's. -/
import Derived.Test.YtibfenkaoaclfaaAp
namespace Go.Proofs.Ytibfenkaoaclfaa
open Go.RowKit
set_option linter.unusedVariables false

theorem mulW {p f q : Int} (h : p * f = q) (h0 : 0 ≤ q ∧ q ≤ 400000000000) : wrap64 (p * f) = q := by rw [h]; exact IntWalk.wrap64_in _ (by omega)

set_option maxRecDepth 100000 in
set_option maxHeartbeats 2000000 in
theorem shareOfRow_any (b off cap n k : Nat) (xss : List (List Int)) (w : World) (hp : Pairs w b off n xss) (hok : ∀ i, i < n → okCh (xss.getD i []) = true) (n5 : n ≤ 5) (hk : k ≤ 31) :
    Calls Try.prog 74 #[.slice (some ⟨b, off, none⟩) n cap, .int .i64 (k : Int)] w fun e w' => e = .returned (.int .i64 (prodZ (shareF xss k) n)) ∧ Below w.heap.size w w' := by
  have HP := Lib.hid hp
  have HOK := Lib.hid hok
  have HBD : Hid (∀ i, i ≤ n → 0 ≤ prodZ (shareF xss k) i ∧ prodZ (shareF xss k) i ≤ 10000000000) := fun i hi => prodZ_bd (fun j hj => share_bd hok k j (by omega)) (by omega)
  clear hp hok
  go_enter Try.func74, Try.ntmps74
  go_wp2_with fail
  go_loopw [5, 10] (fun s c wr => ∃ i : Nat, i ≤ n ∧ c = .int .i64 (i : Int) ∧ s = .int .i64 (prodZ (shareF xss k) i) ∧ Below w.heap.size w wr) (fun _ c _ => n - (intOf c).toNat)
  case atStart => exact ⟨0, Nat.zero_le _, rfl, rfl, Below.refl _ _⟩
  case round =>
    obtain ⟨i, hi, rfl, rfl, hL⟩ := hrel
    by_cases hlt : i < n
    · obtain ⟨rb, ro, rc, hc1, hc2, hc3⟩ := (HP.out.keep hL) i hlt
      have hi1 : (i : Int) < (n : Int) := by omega
      have hi0 : (0 : Int) ≤ (i : Int) := by omega
      have hoc := okCh_out (HOK.out i hlt)
      have HD := Lib.hid (fun w => digitAt_any (k : Int) (i : Int) w (by omega) (by omega) (by omega) (by omega))
      have HB1 := Lib.hid (HBD.out (i + 1) (by omega))
      by_cases hd : digZ (k : Int) (i : Int) = 1
      · have hdq : (digZ (k : Int) (i : Int) == 1) = true := by simp [hd]
        have HS : Hid (prodZ (shareF xss k) i * (xss.getD i []).getD 0 0 = prodZ (shareF xss k) (i + 1)) := by
          unfold Hid; simp only [prodZ]; unfold shareF; rw [if_pos hd]
        have HV := Lib.hid (mulW HS.out ⟨HB1.out.1, by have := HB1.out.2; omega⟩)
        clear hd hoc
        generalize (xss.getD i []).getD 0 0 = x at *
        generalize (xss.getD i []).getD 1 0 = y at *
        generalize prodZ (shareF xss k) i = p at *
        go_wp2_with ((go_at_call 73; (with_reducible refine (HD.out _).mono ?_); rintro e w' ⟨rfl, rfl⟩))
        rw [HV.out]
        exact ⟨⟨i + 1, by omega, by go_num, rfl, hL⟩, by simp [intOf]; omega⟩
      · have hdq : (digZ (k : Int) (i : Int) == 1) = false := by simp [hd]
        have HS : Hid (prodZ (shareF xss k) i * ((xss.getD i []).getD 1 0 - (xss.getD i []).getD 0 0) = prodZ (shareF xss k) (i + 1)) := by
          unfold Hid; simp only [prodZ]; unfold shareF; rw [if_neg hd]
        have HV := Lib.hid (mulW HS.out ⟨HB1.out.1, by have := HB1.out.2; omega⟩)
        have hsub : IntKind.i64.wrap ((xss.getD i []).getD 1 0 - (xss.getD i []).getD 0 0) = (xss.getD i []).getD 1 0 - (xss.getD i []).getD 0 0 := IntWalk.i64_in _ (by omega)
        clear hd hoc
        generalize (xss.getD i []).getD 0 0 = x at *
        generalize (xss.getD i []).getD 1 0 = y at *
        generalize prodZ (shareF xss k) i = p at *
        go_upto_region 7 with ((go_at_call 73; (with_reducible refine (HD.out _).mono ?_); rintro e w' ⟨rfl, rfl⟩))
        go_quiet (fail)
        rw [HV.out]
        clear hsub
        go_wp2_with fail
        exact ⟨⟨i + 1, by omega, by go_num, rfl, Bdrew hL _⟩, by simp [intOf]; omega⟩
    · have e : i = n := by omega
      subst e
      go_wp2_with fail
      go_ret
      exact ⟨rfl, hL⟩

set_option maxRecDepth 100000 in
set_option maxHeartbeats 2000000 in
theorem chanceApart_any (b off cap N : Nat) (v : Int) (xss : List (List Int)) (w : World) (hp : Pairs w b off N xss) (hok : ∀ i, i < N → okCh (xss.getD i []) = true) (n1 : (1 : Int) ≤ (N : Int)) (n5 : (N : Int) ≤ 5) (h0 : 0 ≤ v) (hv : v < 9223372036854775808) :
    Calls Try.prog 64 #[.agg #[.int .i64 (N : Int), .int .i64 v], .slice (some ⟨b, off, none⟩) N cap] w fun e w' => e = .returned (.tuple #[.int .i64 (lowA (overZ v xss N (2 ^ N)) (prodZ (belowF xss) N)), .int .i64 (lowB (overZ v xss N (2 ^ N)) (prodZ (belowF xss) N))]) ∧ Below w.heap.size w w' := by
  have HP := Lib.hid hp
  have HOK := Lib.hid hok
  have hr := rcZ_bd n1 n5
  have Hr : Hid (rcZ (N : Int) = ((2 ^ N : Nat) : Int)) := rfl
  have HB : Hid (∀ i, i ≤ N → 0 ≤ prodZ (belowF xss) i ∧ prodZ (belowF xss) i ≤ 10000000000) := fun i hi => prodZ_bd (fun j hj => by
    have := okCh_out (hok j (by omega))
    show 0 ≤ (xss.getD j []).getD 1 0 ∧ (xss.getD j []).getD 1 0 ≤ 100
    omega) (by omega)
  have HB1 : Hid (1 ≤ prodZ (belowF xss) N) := prodZ_pos fun j hj => by have := okCh_out (hok j hj); exact this.2.1
  have HO : Hid (∀ k, 0 ≤ overZ v xss N k ∧ overZ v xss N k ≤ (k : Int) * 10000000000) := fun k => overZ_bd hok (by omega) k
  have HL := Lib.hid (fun w => lowest_i (overZ v xss N (2 ^ N)) (prodZ (belowF xss) N) w (by have h1 := HO.out (2 ^ N); have h2 := Hr.out; have h3 := hr.2; omega) (by have h1 := HB.out N (Nat.le_refl _); have h2 := HB1.out; omega))
  have kb := C2.here w (.int .i64 (N : Int)) (.int .i64 v) 45
  have hL0 : Below w.heap.size w (w.alloc (.cells #[.int .i64 (N : Int), .int .i64 v] 45)) := (Below.refl _ _).alloc (Nat.le_refl _) _
  obtain ⟨P, hP⟩ : ∃ P, prodZ (belowF xss) N = P := ⟨_, rfl⟩
  obtain ⟨o, ho⟩ : ∃ o, overZ v xss N (2 ^ N) = o := ⟨_, rfl⟩
  rw [hP, ho] at HL ⊢
  have HPq := Lib.hid hP
  have HOq := Lib.hid ho
  clear hp hok hP ho
  go_enter Try.func64, Try.ntmps64
  go_wp2_with fail
  go_loopw [7, 13] (fun s c wr => ∃ i : Nat, i ≤ N ∧ c = .int .i64 (i : Int) ∧ s = .int .i64 (prodZ (belowF xss) i) ∧ Below w.heap.size w wr ∧ C2 wr w.heap.size (.int .i64 (N : Int)) (.int .i64 v)) (fun _ c _ => N - (intOf c).toNat)
  case atStart => exact ⟨0, Nat.zero_le _, rfl, rfl, hL0, kb⟩
  case round =>
    clear hL0 kb
    obtain ⟨i, hi, rfl, rfl, hL, kb⟩ := hrel
    by_cases hlt : i < N
    · obtain ⟨rb, ro, rc, hc1, hc2, hc3⟩ := (HP.out.keep hL) i hlt
      have hi1 : (i : Int) < (N : Int) := by omega
      have hi0 : (0 : Int) ≤ (i : Int) := by omega
      have HBd := Lib.hid (HB.out (i + 1) (by omega))
      have HS : Hid (prodZ (belowF xss) i * (xss.getD i []).getD 1 0 = prodZ (belowF xss) (i + 1)) := rfl
      have HV := Lib.hid (mulW HS.out ⟨HBd.out.1, by have := HBd.out.2; omega⟩)
      generalize (xss.getD i []).getD 0 0 = x at *
      generalize (xss.getD i []).getD 1 0 = y at *
      generalize prodZ (belowF xss) i = p at *
      go_wp2_with fail
      rw [HV.out]
      exact ⟨⟨i + 1, by omega, by go_num, rfl, hL, kb⟩, by simp [intOf]; omega⟩
    · have e : i = N := by omega
      have HE := Lib.hid e
      clear e
      rw [HE.out, HPq.out]
      go_wp2_with ((go_at_call 58; (with_reducible refine (rowCount_any _ _ n1 n5).mono ?_); rintro e w' ⟨rfl, rfl⟩))
      go_loopw [6, 26] (fun s c wr => ∃ k : Nat, (k : Int) ≤ rcZ (N : Int) ∧ c = .int .i64 (k : Int) ∧ s = .int .i64 (overZ v xss N k) ∧ Below w.heap.size w wr ∧ C2 wr w.heap.size (.int .i64 (N : Int)) (.int .i64 v)) (fun _ c _ => (rcZ (N : Int) - intOf c).toNat)
      case atStart => exact ⟨0, by omega, rfl, rfl, hL, kb⟩
      case round =>
        clear hL kb
        obtain ⟨k, hk, rfl, rfl, hL, kb⟩ := hrel
        by_cases hlk : (k : Int) < rcZ (N : Int)
        · have hk31 : k ≤ 31 := by omega
          have HK : Hid ((k : Int) ≤ 62) := by unfold Hid; omega
          have HSB := Lib.hid (prodZ_bd (f := shareF xss k) (k := N) (fun j hj => share_bd HOK.out k j hj) (by omega))
          have HOB := Lib.hid (HO.out (k + 1))
          have HS : Hid (overZ v xss N k + digZ v (k : Int) * prodZ (shareF xss k) N = overZ v xss N (k + 1)) := rfl
          have HDB := Lib.hid (digZ_bd v (k : Int))
          have HV : Hid (wrap64 (overZ v xss N k + wrap64 (digZ v (k : Int) * prodZ (shareF xss k) N)) = overZ v xss N (k + 1)) := by
            unfold Hid
            rw [wrap_add_wrap, HS.out]
            have := HOB.out
            exact IntWalk.wrap64_in _ (by omega)
          have HSh := Lib.hid (fun w' h => shareOfRow_any b off cap N k xss w' h HOK.out (by omega) hk31)
          generalize overZ v xss N k = ok at *
          generalize prodZ (shareF xss k) N = q at *
          go_wp2_with (first | (go_at_call 59; (with_reducible refine (valueAt_any _ _ _ _ h0 hv (by omega) HK.out).mono ?_); rintro e w' ⟨rfl, hb⟩; have hL := chain (B := w.heap.size) (a := w) hL (Nat.le_refl _) hb; replace kb := keepAt hb kb; clear hb) | (go_at_call 74; (with_reducible refine (HSh.out _ (HP.out.keep hL)).mono ?_); rintro e w' ⟨rfl, hb⟩; have hL := chain (B := w.heap.size) (a := w) hL (Nat.le_refl _) hb; replace kb := keepAt hb kb; clear hb))
          rw [HV.out]
          exact ⟨⟨k + 1, by omega, by go_num, rfl, hL, kb⟩, by simp [intOf]; omega⟩
        · have e : k = 2 ^ N := by have := Hr.out; omega
          have e2 : overZ v xss N k = overZ v xss N (2 ^ N) := by rw [e]
          rw [e2, HOq.out]
          clear e e2
          go_wp2_with fail
          refine (HL.out _).mono ?_
          rintro e w' ⟨rfl, hb⟩
          have hL2 := chain (B := w.heap.size) (a := w) hL (Nat.le_refl _) hb
          go_wp2_with fail
          go_ret2
          exact ⟨rfl, hL2⟩

end Go.Proofs.Ytibfenkaoaclfaa
