/- ChanceApart: the program's contract. -/
import Derived.Test.YtibfenkaoaclfaaApI
namespace Go.Proofs.Ytibfenkaoaclfaa
open Go.RowKit
set_option linter.unusedVariables false

theorem firstBadCh (xss : List (List Int)) : ∃ j, j ≤ xss.length ∧ (∀ i, i < j → okCh (xss.getD i []) = true) ∧ (j < xss.length → okCh (xss.getD j []) = false) := by
  obtain ⟨j, h1, h2, h3⟩ := firstB (fun i => !okCh (xss.getD i [])) xss.length
  refine ⟨j, h1, fun i hi => by have := h2 i hi; simpa using this, fun h => by have := h3 h; simpa using this⟩

set_option maxRecDepth 100000 in
set_option maxHeartbeats 4000000 in
theorem iChanceApart_any (n v : Int) (va : Value) (xss : List (List Int)) (w : World) (ha : Reads2 w va xss) :
    Calls Try.prog 33 #[.agg #[.int .i64 n, .int .i64 v], va] w fun e w' => e = .returned (.tuple #[.int .i64 (resChanceApart_0 n v xss), .int .i64 (resChanceApart_1 n v xss), .int .i64 (resChanceApart_2 n v xss)]) ∧ Below w.heap.size w w' := by
  have k0 := C2.here w (.int .i64 n) (.int .i64 v) 45
  obtain ⟨a, ca, rfl, hm, ha'⟩ := ha
  by_cases ht : isTab n v = true
  · obtain ⟨n1, n5, h0, hv⟩ := tab_bd ht
    have Ht := Lib.hid ht
    by_cases hl : (xss.length : Int) = n
    · have hlq : ((xss.length : Int) != n) = false := by simp [hl]
      obtain ⟨N, rfl⟩ := Int.eq_ofNat_of_zero_le (show 0 ≤ n by omega)
      have hlN : xss.length = N := by omega
      obtain ⟨b, off, rfl, ha0⟩ : ∃ b off, a = some ⟨b, off, none⟩ ∧ ∀ i, i < xss.length → ∃ u, w.cell? ⟨b, off + i, none⟩ = some u ∧ Reads w u (xss.getD i []) := by
        rcases ha' with rfl | h
        · simp at hlN; omega
        · exact h
      obtain ⟨j, hj, hok, hbad⟩ := firstBadCh xss
      have HR : Hid ((j < xss.length → resChanceApart_0 (N : Int) v xss = 0 ∧ resChanceApart_1 (N : Int) v xss = 0 ∧ resChanceApart_2 (N : Int) v xss = 2) ∧ (¬ j < xss.length → resChanceApart_0 (N : Int) v xss = lowA (overZ v xss N (2 ^ N)) (prodZ (belowF xss) N) ∧ resChanceApart_1 (N : Int) v xss = lowB (overZ v xss N (2 ^ N)) (prodZ (belowF xss) N) ∧ resChanceApart_2 (N : Int) v xss = 0)) := by
        refine ⟨fun h => ap_no ht fun hh => ?_, fun h => ?_⟩
        · have := hbad h
          rw [hh.2 j h] at this; cases this
        · have := ap_yes ht ⟨hl, fun i hi => hok i (by omega)⟩
          rw [Int.toNat_natCast] at this
          exact this
      have Ha := Lib.hid ha0
      have HOK := Lib.hid hok
      have HBAD := Lib.hid hbad
      rw [hlN] at Ha HR HBAD hj hlq ⊢
      clear ht ha' ha0 hok hbad hl hlN hm
      go_enter Try.func33, Try.ntmps33
      go_wp2_with ((go_at_call 57; (with_reducible refine (isTable_b _ _ _ Ht.out).mono ?_); rintro e w' ⟨rfl, hb⟩; have hL := chain (B := w.heap.size) (a := w) (by go_grown) (Nat.le_refl _) hb; (first | replace k0 := keepAt hb k0 | replace k0 := keepAt hb (C2.alloc k0 _)); clear hb))
      go_loopw [21] (fun c wr => ∃ k : Nat, k ≤ j ∧ c = .int .i64 (k : Int) ∧ Below w.heap.size w wr ∧ C2 wr w.heap.size (.int .i64 (N : Int)) (.int .i64 v)) (fun c _ => N - (intOf c).toNat)
      case atStart => exact ⟨0, Nat.zero_le _, rfl, hL, k0⟩
      case round =>
        clear hL k0
        obtain ⟨k, hk, rfl, hL, kb⟩ := hrel
        by_cases hlt : k < N
        · obtain ⟨u, hu0, hrd⟩ := Ha.out k hlt
          have hi1 : (k : Int) < (N : Int) := by omega
          have hi0 : (0 : Int) ≤ (k : Int) := by omega
          by_cases hl2 : (xss.getD k []).length = 2
          · obtain ⟨rb, ro, rc, hc1, hc2, hc3⟩ := pairs_of hu0 hrd hl2
            replace hc1 := cell_later hL hc1
            replace hc2 := cell_later hL hc2
            replace hc3 := cell_later hL hc3
            by_cases hkj : k < j
            · have hch : chB ((xss.getD k []).getD 0 0) ((xss.getD k []).getD 1 0) = true := by
                have := HOK.out k hkj
                unfold okCh at this
                rw [Bool.and_eq_true] at this
                exact this.2
              have HC := Lib.hid (fun w => isChance_b _ _ w hch)
              clear hu0 hrd hl2 hch
              generalize (xss.getD k []).getD 0 0 = x at *
              generalize (xss.getD k []).getD 1 0 = y at *
              go_upto_region 8 with fail
              go_quiet ((go_at_call 63; exact Calls.quiet_of_same ((HC.out _).mono fun _ _ h => ⟨h.1, h.2.symm⟩)))
              go_wp2_with fail
              exact ⟨⟨k + 1, by omega, by go_num, Bdrew hL _, kb⟩, by simp [intOf]; omega⟩
            · have e : k = j := by omega
              subst e
              have hch : chB ((xss.getD k []).getD 0 0) ((xss.getD k []).getD 1 0) = false := by
                have := HBAD.out hlt
                unfold okCh at this
                rw [decide_eq_true hl2, Bool.true_and] at this
                exact this
              have HC := Lib.hid (fun w => isChance_b _ _ w hch)
              obtain ⟨r0, r1, r2⟩ := HR.out.1 hlt
              have R0 := Lib.hid r0
              have R1 := Lib.hid r1
              have R2 := Lib.hid r2
              clear hu0 hrd hl2 hch r0 r1 r2
              generalize (xss.getD k []).getD 0 0 = x at *
              generalize (xss.getD k []).getD 1 0 = y at *
              go_upto_region 8 with fail
              go_quiet ((go_at_call 63; exact Calls.quiet_of_same ((HC.out _).mono fun _ _ h => ⟨h.1, h.2.symm⟩)))
              go_wp2_with fail
              go_ret3
              exact ⟨by rw [R0.out, R1.out, R2.out]; rfl, Bdrew hL _⟩
          · have hkj : ¬ k < j := fun h => by
              have := okCh_out (HOK.out k h)
              exact hl2 this.1
            have e : k = j := by omega
            subst e
            obtain ⟨r0, r1, r2⟩ := HR.out.1 hlt
            obtain ⟨ua, uc, rfl, _, _⟩ := hrd
            have hc1 := cell_later hL hu0
            have hq : ((((xss.getD k []).length : Nat) : Int) != 2) = true := bne_iff_ne.2 (by omega)
            have R0 := Lib.hid r0
            have R1 := Lib.hid r1
            have R2 := Lib.hid r2
            clear hu0 r0 r1 r2 hl2 hkj
            generalize (xss.getD k []).length = m at *
            go_upto_region 8 with fail
            go_quiet (fail)
            go_wp2_with fail
            go_ret3
            exact ⟨by rw [R0.out, R1.out, R2.out]; rfl, Bdrew hL _⟩
        · have hkj : ¬ j < N := by omega
          obtain ⟨r0, r1, r2⟩ := HR.out.2 hkj
          have HP : Hid (Pairs w b off N xss) := fun i hi => by
            obtain ⟨u, hu0, hrd⟩ := Ha.out i hi
            exact pairs_of hu0 hrd (okCh_out (HOK.out i (by omega))).1
          have HCA := Lib.hid (fun w' h => chanceApart_any b off ca N v xss w' h (fun i hi => HOK.out i (by omega)) n1 n5 h0 hv)
          have R0 := Lib.hid r0
          have R1 := Lib.hid r1
          have R2 := Lib.hid r2
          clear r0 r1 r2
          generalize lowA (overZ v xss N (2 ^ N)) (prodZ (belowF xss) N) = A at *
          generalize lowB (overZ v xss N (2 ^ N)) (prodZ (belowF xss) N) = B at *
          go_wp2_with fail
          refine (HCA.out _ (HP.out.keep hL)).mono ?_
          rintro e w' ⟨rfl, hb⟩
          have hL2 := chain (B := w.heap.size) (a := w) hL (Nat.le_refl _) hb
          go_wp2_with fail
          go_ret3
          exact ⟨by rw [R0.out, R1.out, R2.out]; rfl, hL2⟩
    · have hlq : ((xss.length : Int) != n) = true := by simp [hl]
      obtain ⟨r0, r1, r2⟩ := ap_no (v := v) ht (fun h => hl h.1)
      rw [r0, r1, r2]
      clear ht ha' hl r0 r1 r2
      generalize xss.length = m at *
      go_enter Try.func33, Try.ntmps33
      go_wp2_with ((go_at_call 57; (with_reducible refine (isTable_b _ _ _ Ht.out).mono ?_); rintro e w' ⟨rfl, hb⟩; have hL := chain (B := w.heap.size) (a := w) (by go_grown) (Nat.le_refl _) hb; (first | replace k0 := keepAt hb k0 | replace k0 := keepAt hb (C2.alloc k0 _)); clear hb))
      go_ret3
      exact ⟨rfl, hL⟩
  · have Ht : Hid (isTab n v = false) := by unfold Hid; simpa using ht
    obtain ⟨r0, r1, r2⟩ := ap_none (xss := xss) Ht.out
    rw [r0, r1, r2]
    clear ht ha' r0 r1 r2
    go_enter Try.func33, Try.ntmps33
    go_wp2_with ((go_at_call 57; (with_reducible refine (isTable_b _ _ _ Ht.out).mono ?_); rintro e w' ⟨rfl, hb⟩; have hL := chain (B := w.heap.size) (a := w) (by go_grown) (Nat.le_refl _) hb; (first | replace k0 := keepAt hb k0 | replace k0 := keepAt hb (C2.alloc k0 _)); clear hb))
    go_ret3
    exact ⟨rfl, hL⟩

end Go.Proofs.Ytibfenkaoaclfaa
