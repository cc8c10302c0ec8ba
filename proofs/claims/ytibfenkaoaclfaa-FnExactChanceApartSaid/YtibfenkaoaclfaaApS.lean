/- ChanceApart: the model's. -/
import Derived.Test.YtibfenkaoaclfaaApJ
namespace Go.Proofs.Ytibfenkaoaclfaa
open Go.RowKit
set_option linter.unusedVariables false

theorem u64_of5 {i : Nat} (h : i ≤ 5) : IntKind.u64.wrap (i : Int) = (i : Int) := IntWalk.u64_in _ (by omega)

set_option maxRecDepth 100000 in
set_option maxHeartbeats 8000000 in
theorem sChanceApart_any (n v : Int) (va : Value) (xss : List (List Int)) (w : World) (ha : Reads2 w va xss) :
    Calls Try.prog 31 #[.agg #[.int .i64 n, .int .i64 v], va] w fun e w' => e = .returned (.tuple #[.int .i64 (resChanceApart_0 n v xss), .int .i64 (resChanceApart_1 n v xss), .int .i64 (resChanceApart_2 n v xss)]) ∧ Below w.heap.size w w' := by
  have k0 := C2.here w (.int .i64 n) (.int .i64 v) 45
  obtain ⟨a, ca, rfl, hm, ha'⟩ := ha
  unfold maxLen at hm
  by_cases ht : isTab n v = true
  · obtain ⟨n1, n5, h0, hv⟩ := tab_bd ht
    have Ht := Lib.hid ht
    obtain ⟨N, rfl⟩ := Int.eq_ofNat_of_zero_le (show 0 ≤ n by omega)
    have ha0 : ∀ i, i < xss.length → ∃ b off, a = some ⟨b, off, none⟩ ∧ ∃ u, w.cell? ⟨b, off + i, none⟩ = some u ∧ Reads w u (xss.getD i []) := by
      rcases ha' with rfl | ⟨b, off, rfl, h⟩
      · intro i hi; simp at hi
      · intro i hi; exact ⟨b, off, rfl, h i hi⟩
    obtain ⟨j, hj, hok, hbad⟩ := firstBadCh xss
    have HR : Hid (((j < xss.length ∨ xss.length ≠ N) → resChanceApart_0 (N : Int) v xss = 0 ∧ resChanceApart_1 (N : Int) v xss = 0 ∧ resChanceApart_2 (N : Int) v xss = 2) ∧ (¬ j < xss.length → xss.length = N → resChanceApart_0 (N : Int) v xss = lowA (overZ v xss N (2 ^ N)) (prodZ (belowF xss) N) ∧ resChanceApart_1 (N : Int) v xss = lowB (overZ v xss N (2 ^ N)) (prodZ (belowF xss) N) ∧ resChanceApart_2 (N : Int) v xss = 0)) := by
      refine ⟨fun h => ap_no ht fun hh => ?_, fun h hl => ?_⟩
      · rcases h with h | h
        · have := hbad h
          rw [hh.2 j h] at this; cases this
        · omega
      · have := ap_yes ht ⟨by omega, fun i hi => hok i (by omega)⟩
        rw [Int.toNat_natCast] at this
        exact this
    have Ha := Lib.hid ha0
    have HOK := Lib.hid hok
    have HBAD := Lib.hid hbad
    clear ht ha' ha0 hok hbad
    generalize hLL : xss.length = L at *
    clear hLL
    go_enter Try.func31, Try.ntmps31
    go_wp2_with ((go_at_call 54; (with_reducible refine (l01Is_b _ _ _ Ht.out).mono ?_); rintro e w' ⟨rfl, hb⟩; have hL := chain (B := w.heap.size) (a := w) (by go_grown) (Nat.le_refl _) hb; (first | replace k0 := keepAt hb k0 | replace k0 := keepAt hb (C2.alloc k0 _)); clear hb))
    go_loopw [8] (fun c wr => ∃ k : Nat, k ≤ j ∧ c = .int .i64 (k : Int) ∧ Below w.heap.size w wr ∧ C2 wr w.heap.size (.int .i64 (N : Int)) (.int .i64 v)) (fun c _ => L - (intOf c).toNat)
    case atStart => exact ⟨0, Nat.zero_le _, rfl, hL, k0⟩
    case round =>
      clear hL k0
      obtain ⟨k, hk, rfl, hL, kb⟩ := hrel
      by_cases hlt : k < L
      · obtain ⟨b, off, rfl, u, hu0, hrd⟩ := Ha.out k hlt
        have hi1 : (k : Int) < (L : Int) := by omega
        have hi0 : (0 : Int) ≤ (k : Int) := by omega
        by_cases hl2 : (xss.getD k []).length = 2
        · obtain ⟨rb, ro, rc, hc1, hc2, hc3⟩ := pairs_of hu0 hrd hl2
          replace hc1 := cell_later hL hc1
          replace hc2 := cell_later hL hc2
          replace hc3 := cell_later hL hc3
          by_cases hkj : k < j
          · have hch : chB ((xss.getD k []).getD 0 0) ((xss.getD k []).getD 1 0) = true := by
              have := HOK.out k hkj
              unfold okCh at this
              rw [Bool.and_eq_true] at this
              exact this.2
            have HC := Lib.hid (fun w => l05Fraction_b _ _ w hch)
            clear hu0 hrd hl2 hch
            generalize (xss.getD k []).getD 0 0 = x at *
            generalize (xss.getD k []).getD 1 0 = y at *
            go_upto_region 7 with fail
            go_quiet ((go_at_call 61; exact Calls.quiet_of_same ((HC.out _).mono fun _ _ h => ⟨h.1, h.2.symm⟩)))
            go_wp2_with fail
            exact ⟨⟨k + 1, by omega, by go_num, Bdrew hL _, kb⟩, by simp [intOf]; omega⟩
          · have e : k = j := by omega
            subst e
            have hch : chB ((xss.getD k []).getD 0 0) ((xss.getD k []).getD 1 0) = false := by
              have := HBAD.out hlt
              unfold okCh at this
              rw [decide_eq_true hl2, Bool.true_and] at this
              exact this
            have HC := Lib.hid (fun w => l05Fraction_b _ _ w hch)
            obtain ⟨r0, r1, r2⟩ := HR.out.1 (.inl hlt)
            have R0 := Lib.hid r0
            have R1 := Lib.hid r1
            have R2 := Lib.hid r2
            clear hu0 hrd hl2 hch r0 r1 r2
            generalize (xss.getD k []).getD 0 0 = x at *
            generalize (xss.getD k []).getD 1 0 = y at *
            go_upto_region 7 with fail
            go_quiet ((go_at_call 61; exact Calls.quiet_of_same ((HC.out _).mono fun _ _ h => ⟨h.1, h.2.symm⟩)))
            go_wp2_with fail
            go_ret3
            exact ⟨by rw [R0.out, R1.out, R2.out]; rfl, Bdrew hL _⟩
        · have hkj : ¬ k < j := fun h => by
            have := okCh_out (HOK.out k h)
            exact hl2 this.1
          have e : k = j := by omega
          subst e
          obtain ⟨r0, r1, r2⟩ := HR.out.1 (.inl hlt)
          obtain ⟨ua, uc, rfl, _, _⟩ := hrd
          have hc1 := cell_later hL hu0
          have hq : ((((xss.getD k []).length : Nat) : Int) != 2) = true := bne_iff_ne.2 (by omega)
          have R0 := Lib.hid r0
          have R1 := Lib.hid r1
          have R2 := Lib.hid r2
          clear hu0 r0 r1 r2 hl2 hkj
          generalize (xss.getD k []).length = m at *
          go_upto_region 7 with fail
          go_quiet (fail)
          go_wp2_with fail
          go_ret3
          exact ⟨by rw [R0.out, R1.out, R2.out]; rfl, Bdrew hL _⟩
      · have hkj : ¬ j < L := by omega
        by_cases hln : L = N
        · obtain ⟨r0, r1, r2⟩ := HR.out.2 hkj hln
          have R0 := Lib.hid r0
          have R1 := Lib.hid r1
          have R2 := Lib.hid r2
          obtain ⟨b, off, rfl, _⟩ := Ha.out 0 (by omega)
          have HP : Hid (Pairs w b off N xss) := fun i hi => by
            obtain ⟨b', off', e, u, hu0, hrd⟩ := Ha.out i (by omega)
            simp only [Option.some.injEq, Addr.mk.injEq, and_true] at e
            obtain ⟨rfl, rfl⟩ := e
            exact pairs_of hu0 hrd (okCh_out (HOK.out i (by omega))).1
          have hok : ∀ i, i < N → okCh (xss.getD i []) = true := fun i hi => HOK.out i (by omega)
          have HOK2 := Lib.hid hok
          have hr := rcZ_bd n1 n5
          have Hr : Hid (rcZ (N : Int) = ((2 ^ N : Nat) : Int)) := rfl
          have HB : Hid (∀ i, i ≤ N → 0 ≤ prodZ (belowF xss) i ∧ prodZ (belowF xss) i ≤ 10000000000) := fun i hi => prodZ_bd (fun j hj => by
            have := okCh_out (hok j (by omega))
            show 0 ≤ (xss.getD j []).getD 1 0 ∧ (xss.getD j []).getD 1 0 ≤ 100
            omega) (by omega)
          have HB1 : Hid (1 ≤ prodZ (belowF xss) N) := prodZ_pos fun j hj => by have := okCh_out (hok j hj); exact this.2.1
          have HO : Hid (∀ k, 0 ≤ overZ v xss N k ∧ overZ v xss N k ≤ (k : Int) * 10000000000) := fun k => overZ_bd hok (by omega) k
          have HLw := Lib.hid (fun w => lowest_s (overZ v xss N (2 ^ N)) (prodZ (belowF xss) N) w (by have h1 := HO.out (2 ^ N); have h2 := Hr.out; have h3 := hr.2; omega) (by have h1 := HB.out N (Nat.le_refl _); have h2 := HB1.out; omega))
          obtain ⟨P, hP⟩ : ∃ P, prodZ (belowF xss) N = P := ⟨_, rfl⟩
          obtain ⟨o, ho⟩ : ∃ o, overZ v xss N (2 ^ N) = o := ⟨_, rfl⟩
          rw [hP, ho] at HLw R0 R1
          have HPq := Lib.hid hP
          have HOq := Lib.hid ho
          have hlq : ((N : Int) != (N : Int)) = false := by simp
          subst hln
          clear r0 r1 r2 hok hP ho Ha HOK HBAD HR
          go_wp2_with fail
          go_loopw [7, 9] (fun s c wr => ∃ i : Nat, i ≤ L ∧ c = .int .i64 (i : Int) ∧ s = .int .i64 (prodZ (belowF xss) i) ∧ Below w.heap.size w wr ∧ C2 wr w.heap.size (.int .i64 (L : Int)) (.int .i64 v)) (fun _ c _ => L - (intOf c).toNat)
          case atStart => exact ⟨0, Nat.zero_le _, rfl, rfl, hL, kb⟩
          case round =>
            clear hL kb
            obtain ⟨i, hi, rfl, rfl, hL, kb⟩ := hrel
            by_cases hlt2 : i < L
            · obtain ⟨rb, ro, rc, hc1, hc2, hc3⟩ := (HP.out.keep hL) i hlt2
              have hi1 : (i : Int) < (L : Int) := by omega
              have hi0 : (0 : Int) ≤ (i : Int) := by omega
              have HBd := Lib.hid (HB.out (i + 1) (by omega))
              have HS : Hid (prodZ (belowF xss) i * (xss.getD i []).getD 1 0 = prodZ (belowF xss) (i + 1)) := rfl
              have HV := Lib.hid (mulW HS.out ⟨HBd.out.1, by have := HBd.out.2; omega⟩)
              generalize (xss.getD i []).getD 0 0 = x at *
              generalize (xss.getD i []).getD 1 0 = y at *
              generalize prodZ (belowF xss) i = p at *
              go_wp2_with fail
              rw [HV.out]
              exact ⟨⟨i + 1, by omega, by go_num, rfl, hL, kb⟩, by simp [intOf]; omega⟩
            · have e : i = L := by omega
              have HE := Lib.hid e
              clear e
              rw [HE.out, HPq.out]
              go_wp2_with fail
              go_loopw [10, 11, 12, 13] (fun s c _ _ wr => ∃ k : Nat, (k : Int) ≤ rcZ (L : Int) ∧ c = .int .i64 (k : Int) ∧ s = .int .i64 (overZ v xss L k) ∧ Below w.heap.size w wr ∧ C2 wr w.heap.size (.int .i64 (L : Int)) (.int .i64 v)) (fun _ c _ _ _ => (rcZ (L : Int) - intOf c).toNat)
              case atStart => exact ⟨0, by omega, rfl, rfl, hL, kb⟩
              case round =>
                clear hL kb
                obtain ⟨k, hk, rfl, rfl, hL, kb⟩ := hrel
                by_cases hlk : (k : Int) < rcZ (L : Int)
                · have hk31 : k ≤ 31 := by omega
                  have HK : Hid ((k : Int) ≤ 62) := by unfold Hid; omega
                  have HPB : Hid (∀ i, i ≤ L → 0 ≤ prodZ (shareF xss k) i ∧ prodZ (shareF xss k) i ≤ 10000000000) := fun i hi => prodZ_bd (fun j hj => share_bd HOK2.out k j (by omega)) (by omega)
                  have HOB := Lib.hid (HO.out (k + 1))
                  have HDB := Lib.hid (digZ_bd v (k : Int))
                  have HS : Hid (wrap64 (overZ v xss L k + digZ v (k : Int) * prodZ (shareF xss k) L) = overZ v xss L (k + 1)) := by
                    unfold Hid
                    have e : overZ v xss L k + digZ v (k : Int) * prodZ (shareF xss k) L = overZ v xss L (k + 1) := rfl
                    rw [e]
                    have := HOB.out
                    exact IntWalk.wrap64_in _ (by omega)
                  generalize overZ v xss L k = ok at *
                  go_wp2_with (first | (go_at_call 55; (with_reducible refine (l01Rows_any _ _ n1 n5).mono ?_); rintro e w' ⟨rfl, rfl⟩) | (go_at_call 56; (with_reducible refine (l01At_any _ _ _ _ h0 hv (by omega) HK.out).mono ?_); rintro e w' ⟨rfl, hb⟩; have hL := chain (B := w.heap.size) (a := w) hL (Nat.le_refl _) hb; replace kb := keepAt hb kb; clear hb))
                  have e1 : digZ v (k : Int) = digZ v (k : Int) * prodZ (shareF xss k) 0 := by simp [prodZ]
                  obtain ⟨d, hd⟩ : ∃ d, digZ v (k : Int) = d := ⟨_, rfl⟩
                  rw [hd] at e1 HS HDB ⊢
                  have HE1 := Lib.hid e1
                  clear hd e1
                  go_loopw [12, 13] (fun s c wr => ∃ i : Nat, i ≤ L ∧ c = .int .i64 (i : Int) ∧ s = .int .i64 (d * prodZ (shareF xss k) i) ∧ Below w.heap.size w wr ∧ C2 wr w.heap.size (.int .i64 (L : Int)) (.int .i64 v)) (fun _ c _ => L - (intOf c).toNat)
                  case atStart => exact ⟨0, Nat.zero_le _, rfl, by rw [← HE1.out], hL, kb⟩
                  case round =>
                    clear hL kb
                    obtain ⟨i, hi, rfl, rfl, hL, kb⟩ := hrel
                    by_cases hlt3 : i < L
                    · obtain ⟨rb, ro, rc, hc1, hc2, hc3⟩ := (HP.out.keep hL) i hlt3
                      have hi1 : (i : Int) < (L : Int) := by omega
                      have hi0 : (0 : Int) ≤ (i : Int) := by omega
                      have hoc := okCh_out (HOK2.out i hlt3)
                      have hpb := HPB.out (i + 1) (by omega)
                      have HNB : Hid (0 ≤ d * prodZ (shareF xss k) (i + 1) ∧ d * prodZ (shareF xss k) (i + 1) ≤ 400000000000) := by
                        have h01 := HDB.out
                        rcases (show d = 0 ∨ d = 1 by omega) with e | e <;> unfold Hid <;> rw [e] <;> omega
                      have hdw := digit_walk (k : Int) (i : Int) (by omega) (by omega) (by omega)
                      rw [Int.toNat_natCast] at hdw
                      have hm : min i 64 = i := by omega
                      by_cases hdg : digZ (k : Int) (i : Int) = 1
                      · have hdq : (bits .and .i64 ((k : Int) / 2 ^ i) 1 == 1) = true := by rw [hdw, hdg]; rfl
                        have HSt : Hid (d * prodZ (shareF xss k) i * (xss.getD i []).getD 0 0 = d * prodZ (shareF xss k) (i + 1)) := by
                          unfold Hid; simp only [prodZ]; rw [← Int.mul_assoc]; unfold shareF; rw [if_pos hdg]
                        have HV := Lib.hid (mulW HSt.out HNB.out)
                        have hu := u64_of5 (i := i) (by omega)
                        clear hdg hdw hoc hpb
                        generalize (xss.getD i []).getD 0 0 = x at *
                        generalize (xss.getD i []).getD 1 0 = y at *
                        generalize d * prodZ (shareF xss k) i = p at *
                        go_wp2_with fail
                        rw [HV.out]
                        exact ⟨⟨i + 1, by omega, by go_num, rfl, hL, kb⟩, by simp [intOf]; omega⟩
                      · have hdq : (bits .and .i64 ((k : Int) / 2 ^ i) 1 == 1) = false := by rw [hdw]; simp [hdg]
                        have HSt : Hid (d * prodZ (shareF xss k) i * ((xss.getD i []).getD 1 0 - (xss.getD i []).getD 0 0) = d * prodZ (shareF xss k) (i + 1)) := by
                          unfold Hid; simp only [prodZ]; rw [← Int.mul_assoc]; unfold shareF; rw [if_neg hdg]
                        have HV := Lib.hid (mulW HSt.out HNB.out)
                        have hsub : IntKind.i64.wrap ((xss.getD i []).getD 1 0 - (xss.getD i []).getD 0 0) = (xss.getD i []).getD 1 0 - (xss.getD i []).getD 0 0 := IntWalk.i64_in _ (by omega)
                        have hu := u64_of5 (i := i) (by omega)
                        clear hdg hdw hoc hpb
                        generalize (xss.getD i []).getD 0 0 = x at *
                        generalize (xss.getD i []).getD 1 0 = y at *
                        generalize d * prodZ (shareF xss k) i = p at *
                        go_upto_region 25 with fail
                        go_quiet (fail)
                        rw [HV.out]
                        clear hsub
                        go_wp2_with fail
                        exact ⟨⟨i + 1, by omega, by go_num, rfl, Bdrew hL _, kb⟩, by simp [intOf]; omega⟩
                    · have e : i = L := by omega
                      have HEi := Lib.hid e
                      clear e
                      rw [HEi.out]
                      generalize d * prodZ (shareF xss k) L = p at *
                      go_wp2_with fail
                      rw [HS.out]
                      exact ⟨⟨k + 1, by omega, by go_num, rfl, hL, kb⟩, by simp [intOf]; omega⟩
                · have e : k = 2 ^ L := by have := Hr.out; omega
                  have e2 : overZ v xss L k = overZ v xss L (2 ^ L) := by rw [e]
                  rw [e2, HOq.out]
                  clear e e2
                  go_wp2_with ((go_at_call 55; (with_reducible refine (l01Rows_any _ _ n1 n5).mono ?_); rintro e w' ⟨rfl, rfl⟩))
                  refine (HLw.out _).mono ?_
                  rintro e w' ⟨rfl, hb⟩
                  have hL2 := chain (B := w.heap.size) (a := w) hL (Nat.le_refl _) hb
                  go_wp2_with fail
                  go_ret3
                  exact ⟨by rw [R0.out, R1.out, R2.out]; rfl, hL2⟩
        · obtain ⟨r0, r1, r2⟩ := HR.out.1 (.inr hln)
          have hlq : ((L : Int) != (N : Int)) = true := bne_iff_ne.2 (by omega)
          have R0 := Lib.hid r0
          have R1 := Lib.hid r1
          have R2 := Lib.hid r2
          clear r0 r1 r2 hln
          go_wp2_with fail
          go_ret3
          exact ⟨by rw [R0.out, R1.out, R2.out]; rfl, hL⟩
  · have Ht : Hid (isTab n v = false) := by unfold Hid; simpa using ht
    obtain ⟨r0, r1, r2⟩ := ap_none (xss := xss) Ht.out
    rw [r0, r1, r2]
    clear ht ha' r0 r1 r2
    go_enter Try.func31, Try.ntmps31
    go_wp2_with ((go_at_call 54; (with_reducible refine (l01Is_b _ _ _ Ht.out).mono ?_); rintro e w' ⟨rfl, hb⟩; have hL := chain (B := w.heap.size) (a := w) (by go_grown) (Nat.le_refl _) hb; (first | replace k0 := keepAt hb k0 | replace k0 := keepAt hb (C2.alloc k0 _)); clear hb))
    go_ret3
    exact ⟨rfl, hL⟩

end Go.Proofs.Ytibfenkaoaclfaa
