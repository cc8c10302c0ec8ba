/- RowsCovered: both contracts. -/
import Derived.Test.YtohmhiodmaahfaaDoorImp
import Derived.Maps.AppendAt
namespace Go.Proofs.YtohmhiodmaahfaaDoor
open Go.RowKit
set_option linter.unusedVariables false

/-- what RowsCovered gives -/
def roc (s : ByteArray) : List Int × Int := if (1 ≤ s.size ∧ s.size ≤ 5) ∧ isPat s s.size = true then (onesTo ((rowsF (sgn s) (2 ^ s.size) : Nat) : Int) 62, 0) else ([], 2)
theorem roc_in {s : ByteArray} (h1 : 1 ≤ s.size ∧ s.size ≤ 5) (h2 : isPat s s.size = true) : roc s = (onesTo ((rowsF (sgn s) (2 ^ s.size) : Nat) : Int) 62, 0) := if_pos ⟨h1, h2⟩
theorem roc_out {s : ByteArray} (h : ¬ ((1 ≤ s.size ∧ s.size ≤ 5) ∧ isPat s s.size = true)) : roc s = ([], 2) := if_neg h
def resRowsCovered_0 (s : ByteArray) : List Int := (roc s).1
def resRowsCovered_1 (s : ByteArray) : Int := (roc s).2
theorem lenRowsCovered_0 (s : ByteArray) : (resRowsCovered_0 s).length ≤ 100000 := by
  unfold resRowsCovered_0 roc
  split
  · have := onesTo_len ((rowsF (sgn s) (2 ^ s.size) : Nat) : Int) 62
    show (onesTo _ 62).length ≤ _
    omega
  · simp

set_option maxRecDepth 100000 in
set_option maxHeartbeats 2000000 in
theorem iRowsCovered_any (s : ByteArray) (hs : s.size ≤ 1048576) (w : World) :
    Calls Tryd.prog 15 #[.string s] w fun e w' => ∃ u, e = .returned (.tuple #[u, .int .i64 (resRowsCovered_1 s)]) ∧ In w' w.heap.size w'.heap.size u (resRowsCovered_0 s) ∧ Below w.heap.size w w' := by
  unfold resRowsCovered_0 resRowsCovered_1
  have hs63 : s.size ≤ 9223372036854775807 := by omega
  by_cases h1 : 1 ≤ s.size ∧ s.size ≤ 5
  · have n1 : (1 : Int) ≤ (s.size : Int) := by omega
    have n5 : (s.size : Int) ≤ 5 := by omega
    cases hp : isPat s s.size
    · rw [roc_out (fun h => by rw [h.2] at hp; cases hp)]
      have HP := Lib.hid (fun w => isPattern_b s hs s.size w hp)
      clear hp h1
      go_enter Tryd.func15, Tryd.ntmps15
      go_wp2_with (first | (go_at_call 45; (with_reducible refine (isInputCount_yes _ _ n1 n5).mono ?_); rintro e w' ⟨rfl, rfl⟩) | (go_at_call 39; (with_reducible refine (HP.out _).mono ?_); rintro e w2 ⟨rfl, hL⟩))
      go_ret2
      exact ⟨.slice none 0 0, rfl, In.of (World.ownsRow_nil _ _ _ _) (Nat.le_refl _) (Nat.le_refl _), hL⟩
    · rw [roc_in h1 hp]
      have HP := Lib.hid (fun w => isPattern_b s hs s.size w hp)
      have HS := Lib.hid (fun w => signsOf_any s h1.2 w)
      have HU := Lib.hid (fun w => rowsUnder_any (sgn s) (sgn_byte s) (s.size : Int) w n1 n5)
      have hlt := rowsF_lt (sgn s) (2 ^ s.size)
      have h32 : 2 ^ s.size ≤ 32 := Nat.pow_le_pow_right (n := 2) (by decide) h1.2
      have h64 : 2 ^ (2 ^ s.size) ≤ 2 ^ 32 := Nat.pow_le_pow_right (by decide) h32
      have HM := Lib.hid (fun w => membersOf_any ((rowsF (sgn s) (2 ^ s.size) : Nat) : Int) w (by omega) (by omega))
      simp only [Int.toNat_natCast] at HU
      clear hp h1 hlt h32 h64
      generalize patA (sgn s) = A at *
      obtain ⟨R, hR⟩ : ∃ R, rowsF (sgn s) (2 ^ s.size) = R := ⟨_, rfl⟩
      rw [hR] at HU HM
      rw [hR]
      clear hR
      go_enter Tryd.func15, Tryd.ntmps15
      go_wp2_with (first | (go_at_call 45; (with_reducible refine (isInputCount_yes _ _ n1 n5).mono ?_); rintro e w' ⟨rfl, rfl⟩) | (go_at_call 39; (with_reducible refine (HP.out _).mono ?_); rintro e w2 ⟨rfl, hL⟩))
      refine (HS.out _).mono ?_
      rintro e w3 ⟨rfl, hb⟩
      replace hL := chain (B := w.heap.size) (a := w) hL (Nat.le_refl _) hb
      clear hb
      go_wp2_with fail
      refine (HU.out _).mono ?_
      rintro e w4 ⟨rfl, hb⟩
      replace hL := chain (B := w.heap.size) (a := w) hL (Nat.le_refl _) hb
      clear hb
      go_wp2_with fail
      refine (HM.out _).mono ?_
      rintro e w5 ⟨u, rfl, ho, hb⟩
      have hz := hL.size
      replace hL := chain (B := w.heap.size) (a := w) hL (Nat.le_refl _) hb
      clear hb
      go_wp2_with fail
      go_ret2
      exact ⟨u, rfl, In.of ho hz (Nat.le_refl _), hL⟩
  · rw [roc_out (fun h => h1 h.1)]
    have hn : (s.size : Int) < 1 ∨ 5 < (s.size : Int) := by omega
    clear h1
    go_enter Tryd.func15, Tryd.ntmps15
    go_wp2_with ((go_at_call 45; (with_reducible refine (isInputCount_no _ _ hn).mono ?_); rintro e w' ⟨rfl, rfl⟩))
    go_ret2
    exact ⟨.slice none 0 0, rfl, In.of (World.ownsRow_nil _ _ _ _) (Nat.le_refl _) (Nat.le_refl _), Below.refl _ _⟩

set_option maxRecDepth 100000 in
set_option maxHeartbeats 2000000 in
theorem sRowsCovered_any (s : ByteArray) (hs : s.size ≤ 1048576) (w : World) :
    Calls Tryd.prog 14 #[.string s] w fun e w' => ∃ u, e = .returned (.tuple #[u, .int .i64 (resRowsCovered_1 s)]) ∧ Reads w' u (resRowsCovered_0 s) ∧ Below w.heap.size w w' := by
  unfold resRowsCovered_0 resRowsCovered_1
  have hs63 : s.size ≤ 9223372036854775807 := by omega
  have HP := Lib.hid (fun w => l08Series_any s hs s.size w)
  by_cases h1 : 1 ≤ s.size ∧ s.size ≤ 5
  · have hin : (1 : Int) ≤ (s.size : Int) ∧ (s.size : Int) ≤ 5 := by omega
    cases hp : isPat s s.size
    · rw [roc_out (fun h => by rw [h.2] at hp; cases hp)]
      rw [hp] at HP
      clear hp h1
      go_enter Tryd.func14, Tryd.ntmps14
      go_wp2_with (first | (go_at_call 42; (with_reducible refine (l01In_yes _ _ _ _ hin).mono ?_); rintro e w' ⟨rfl, rfl⟩) | (go_at_call 36; (with_reducible refine (HP.out _).mono ?_); rintro e w' ⟨rfl, rfl⟩))
      go_ret2
      exact ⟨.slice none 0 0, rfl, (Owns.reads (World.ownsRow_nil _ 0 _ _)), Below.refl _ _⟩
    · rw [roc_in h1 hp]
      obtain ⟨i0, hi, hz0, hz1, hz2⟩ := info_parts info64
      have HC := Lib.hid (fun (k : Nat) (hk : k < 32) (w : World) => l08Covers_any s h1.2 (isPat_out hp).2 (k : Int) w (by omega) (by omega))
      have h32 : 2 ^ s.size ≤ 32 := Nat.pow_le_pow_right (n := 2) (by decide) h1.2
      have HPC : Hid (∀ w, Calls Tryd.prog 43 #[.int .i64 (s.size : Int)] w fun e w' => e = .returned (.int .i64 ((2 ^ s.size : Nat) : Int)) ∧ w = w') := fun w => by
        have := l01Rows_any (s.size : Int) w hin.1 hin.2; unfold rcZ at this; rw [Int.toNat_natCast] at this; exact this
      have hlt := rowsF_lt (sgn s) (2 ^ s.size)
      have h64 : 2 ^ (2 ^ s.size) ≤ 2 ^ 32 := Nat.pow_le_pow_right (by decide) h32
      have HE : Hid (onesTo ((rowsF (sgn s) (2 ^ s.size) : Nat) : Int) (2 ^ s.size) = onesTo ((rowsF (sgn s) (2 ^ s.size) : Nat) : Int) 62) := by
        refine onesTo_rest (by omega) (by omega) ?_
        rw [div_nat (by omega), Int.toNat_natCast, Nat.div_eq_of_lt hlt]; rfl
      have HD := Lib.hid (fun (r : Nat) (hr : r < 2 ^ s.size) => rowsF_dig (f := sgn s) hr)
      rw [hp] at HP
      clear hp h1 hlt h64
      obtain ⟨R, hR⟩ : ∃ R, rowsF (sgn s) (2 ^ s.size) = R := ⟨_, rfl⟩
      rw [hR] at HE HD
      rw [hR]
      clear hR
      obtain ⟨M, hM⟩ : ∃ M, 2 ^ s.size = M := ⟨_, rfl⟩
      rw [hM] at HE HD HPC h32
      clear hM
      have oo : Owns (w.alloc (.cells #[] 2)) w.heap.size (.slice (some ⟨w.heap.size, 0, none⟩) 0 0) (onesTo (R : Int) 0) :=
        World.ownsRow_made (base := w.heap.size) (e := 2) (size := 1) w #[] 0 (by simp) (by simp) rfl
      go_enter Tryd.func14, Tryd.ntmps14
      go_wp2_with (first | (go_at_call 42; (with_reducible refine (l01In_yes _ _ _ _ hin).mono ?_); rintro e w' ⟨rfl, rfl⟩) | (go_at_call 36; (with_reducible refine (HP.out _).mono ?_); rintro e w' ⟨rfl, rfl⟩))
      go_loopw [5, 6] (fun u c wr => ∃ k : Nat, k ≤ M ∧ c = .int .i64 (k : Int) ∧ Below w.heap.size w wr ∧ Owns wr w.heap.size u (onesTo (R : Int) k)) (fun _ c _ => M - (intOf c).toNat)
      case atStart => exact ⟨0, Nat.zero_le _, rfl, by go_grown, oo⟩
      case round =>
        clear oo
        obtain ⟨k, hk, rfl, hL, oo⟩ := hrel
        by_cases hkl : k < M
        · have hk1 : (k : Int) < (M : Int) := by omega
          have HCk := Lib.hid (HC.out k (by omega))
          have hdk := HD.out k hkl
          have hlen := onesTo_len (R : Int) k
          cases hc : covF (sgn s) (k : Int)
          · rw [hc] at HCk hdk
            have Hn : Hid (onesTo (R : Int) (k + 1) = onesTo (R : Int) k) := onesTo_miss _ _ (by rw [Int.toNat_natCast, hdk]; decide)
            clear hc hdk
            go_wp2_with (first | (go_at_call 43; (with_reducible refine (HPC.out _).mono ?_); rintro e w' ⟨rfl, rfl⟩) | (go_at_call 44; (with_reducible refine (HCk.out _).mono ?_); rintro e w' ⟨rfl, rfl⟩))
            exact ⟨⟨k + 1, by omega, by go_num, hL, by rw [Hn.out]; exact oo⟩, by simp [intOf]; omega⟩
          · rw [hc] at HCk hdk
            have Hn : Hid (onesTo (R : Int) (k + 1) = onesTo (R : Int) k ++ [(k : Int)]) := onesTo_hit _ _ (by rw [Int.toNat_natCast, hdk]; rfl)
            clear hc hdk
            have hz' := hL.size
            have hfrom := oo.rowsFrom (B := w.heap.size) (Nat.le_refl _)
            go_wp2_with (first | (go_at_call 43; (with_reducible refine (HPC.out _).mono ?_); rintro e w' ⟨rfl, rfl⟩) | (go_at_call 44; (with_reducible refine (HCk.out _).mono ?_); rintro e w' ⟨rfl, rfl⟩) | (at_builtin; refine wpList_append_own _ rfl _ _ 32 rfl w.heap.size 2 i0 (.int .i64 0) 1 8 Tryd.underlying32 hi hz0 hz1 hz2 rfl (by decide) _ _ _ rfl (World.ownsRow.alloc oo _) ⟨wr.heap.size, 0, none⟩ 1 1 [.int .i64 (k : Int)] rfl rfl (cell_one_new _ _ _) (by simp [Value.oneCell']) (by unfold maxLen; omega) (by omega) (by simp; omega) ?_; intro v' w1 hown' hgrow hnil))
            exact ⟨⟨k + 1, by omega, by go_num, (hL.alloc (by omega) _).grown hgrow (by simp; omega) hfrom, by rw [Hn.out]; exact Owns.snoc hown'⟩, by simp [intOf]; omega⟩
        · have e : k = M := by omega
          have hkn : ¬ (k : Int) < (M : Int) := by omega
          rw [e, HE.out] at oo
          clear e
          go_wp2_with ((go_at_call 43; (with_reducible refine (HPC.out _).mono ?_); rintro e w' ⟨rfl, rfl⟩))
          go_ret2
          exact ⟨_, rfl, oo.reads, hL⟩
  · rw [roc_out (fun h => h1 h.1)]
    have hn : ¬ ((1 : Int) ≤ (s.size : Int) ∧ (s.size : Int) ≤ 5) := by omega
    clear h1
    go_enter Tryd.func14, Tryd.ntmps14
    go_wp2_with ((go_at_call 42; (with_reducible refine (l01In_no _ _ _ _ hn).mono ?_); rintro e w' ⟨rfl, rfl⟩))
    go_ret2
    exact ⟨.slice none 0 0, rfl, (Owns.reads (World.ownsRow_nil _ 0 _ _)), Below.refl _ _⟩

end Go.Proofs.YtohmhiodmaahfaaDoor
