/- TableOfFormula: the model's. -/
import Derived.Test.YtohmhiodmaahfaaTvM
import Derived.Test.YtohmhiodmaahfaaLtr
import Derived.Test.YtohmhiodmaahfaaFvS
import Derived.Test.YtohmhiodmaahfaaFv
namespace Go.Proofs.Ytohmhiodmaahfaa
open Go.RowKit
set_option linter.unusedVariables false

set_option maxRecDepth 100000 in
set_option maxHeartbeats 2000000 in
theorem l04Table_any (t : Fm) (n : Int) (w : World) (hw : wfF t) (hz : (txtF t).length ≤ 1048576) (n1 : 1 ≤ n) (n5 : n ≤ 5) :
    Calls Try.prog 44 #[.string (txtS t), .int .i64 n] w fun e w' => e = .returned (.agg #[.int .i64 n, .int .i64 (tabTo t (2 ^ n.toNat))]) ∧ Below w.heap.size w w' := by
  have Hr : Hid (rcZ n = ((2 ^ n.toNat : Nat) : Int)) := rfl
  have hr := rcZ_bd n1 n5
  have HF := Lib.hid (fun (k : Nat) (w : World) (hk : k < 32) => l04Value_any (k : Int) (by omega) (by omega) (txtF t).length t w hw (Nat.le_refl _) hz)
  generalize txtS t = s at *
  have k0 : C2 ((w.alloc (.cells #[.int .i64 0, .int .i64 0] 36)).alloc (.cells #[.int .i64 n, .int .i64 0] 36)) (w.heap.size) (.int .i64 0) (.int .i64 0) := by simpa using (C2.here w (.int .i64 0) (.int .i64 0) 36).alloc (.cells #[.int .i64 n, .int .i64 0] 36)
  have k1 : C2 ((w.alloc (.cells #[.int .i64 0, .int .i64 0] 36)).alloc (.cells #[.int .i64 n, .int .i64 0] 36)) (w.heap.size + 1) (.int .i64 n) (.int .i64 0) := by simpa using C2.here (w.alloc (.cells #[.int .i64 0, .int .i64 0] 36)) (.int .i64 n) (.int .i64 0) 36
  go_enter Try.func44, Try.ntmps44
  go_wp2_with fail
  go_loopw [6] (fun c wr => ∃ k : Nat, (k : Int) ≤ rcZ n ∧ c = .int .i64 (k : Int) ∧ Below w.heap.size w wr ∧ C2 wr w.heap.size (.int .i64 0) (.int .i64 0) ∧ C2 wr (w.heap.size + 1) (.int .i64 n) (.int .i64 (tabTo t k)))
    (fun c _ => (rcZ n - intOf c).toNat)
  case atStart => exact ⟨0, by omega, rfl, by go_grown, k0, k1⟩
  case round =>
    clear k0 k1
    obtain ⟨k, hk, rfl, hL, k0, k1⟩ := hrel
    by_cases hlt : (k : Int) < rcZ n
    · have HC := Lib.hid (HF.out k · (by omega))
      cases hv : valF (leafV (digZ (k : Int))) t
      · have Hs := Lib.hid (tabTo_zero hv)
        rw [hv] at HC
        clear hv
        go_wp2_with (first | (go_at_call 49; (with_reducible refine (l01Rows_any _ _ n1 n5).mono ?_); rintro e w' ⟨rfl, rfl⟩) | (go_at_call 40; (with_reducible refine (HC.out _).mono ?_); rintro e w' ⟨rfl, hb⟩; have hL := chain (B := w.heap.size) (a := w) (by go_grown) (Nat.le_refl _) hb; (first | replace k0 := keepAt hb k0 | replace k0 := keepAt hb (C2.alloc k0 _)); (first | replace k1 := keepAt hb k1 | replace k1 := keepAt hb (C2.alloc k1 _)); clear hb))
        exact ⟨⟨k + 1, by omega, by go_num, by first | exact hL | go_grown, k0, by rw [Hs.out]; exact k1⟩, by simp [intOf]; omega⟩
      · have Hs := Lib.hid (tabTo_one (by omega) hv)
        rw [hv] at HC
        clear hv
        go_wp2_with (first | (go_at_call 49; (with_reducible refine (l01Rows_any _ _ n1 n5).mono ?_); rintro e w' ⟨rfl, rfl⟩) | (go_at_call 40; (with_reducible refine (HC.out _).mono ?_); rintro e w' ⟨rfl, hb⟩; have hL := chain (B := w.heap.size) (a := w) (by go_grown) (Nat.le_refl _) hb; (first | replace k0 := keepAt hb k0 | replace k0 := keepAt hb (C2.alloc k0 _)); (first | replace k1 := keepAt hb k1 | replace k1 := keepAt hb (C2.alloc k1 _)); clear hb))
        rw [Hs.out]; exact ⟨⟨k + 1, by omega, by go_num, by first | exact hL.setCell (p := ⟨w.heap.size + 1, 1, none⟩) (by simp) _ | go_grown, k0.set _ _ _ (by omega), k1.put1 _⟩, by simp [intOf]; omega⟩
    · have Hk : Hid ((k : Nat) = 2 ^ n.toNat) := by have := Hr.out; unfold Hid; omega
      rw [Hk.out] at k1
      go_wp2_with ((go_at_call 49; (with_reducible refine (l01Rows_any _ _ n1 n5).mono ?_); rintro e w' ⟨rfl, rfl⟩))
      refine bodyPost_ret (v := .agg #[.int .i64 n, .int .i64 (tabTo t (2 ^ n.toNat))]) (by simp [results, Try.results44, go_sem, *]) rfl ?_
      exact ⟨rfl, by go_grown⟩

set_option maxRecDepth 100000 in
set_option maxHeartbeats 1000000 in
theorem sTableOfFormula_any (s : ByteArray) (hs : s.size ≤ 1048576) (n : Int) (w : World) :
    Calls Try.prog 22 #[.string s, .int .i64 n] w fun e w' => e = .returned (.tuple #[.agg #[.int .i64 (resTableOfFormula_0n s n), .int .i64 (resTableOfFormula_0m s n)], .int .i64 (resTableOfFormula_1 s n)]) ∧ Below w.heap.size w w' := by
  have k0 : C2 (w.alloc (.cells #[.int .i64 0, .int .i64 0] 36)) (w.heap.size) (.int .i64 0) (.int .i64 0) := by simpa using C2.here w (.int .i64 0) (.int .i64 0) 36
  unfold resTableOfFormula_0n resTableOfFormula_0m resTableOfFormula_1
  cases hR : fmOf s with
  | none =>
    rw [tof_none hR]
    have HI := Lib.hid (fun w => l04Is_any s w hs (b := false) (by rw [hR]; rfl))
    clear hR
    go_enter Try.func22, Try.ntmps22
    go_wp2_with (go_at_call 29; refine (HI.out _).mono ?_; rintro e w' ⟨rfl, rfl⟩)
    refine bodyPost_ret (v := .tuple #[.agg #[.int .i64 0, .int .i64 0], .int .i64 6]) (by simp [results, Try.results22, go_sem, *]) rfl ?_
    exact ⟨rfl, by go_grown⟩
  | some t =>
    obtain ⟨hw, hst, h80⟩ := fm_some hR
    have HI := Lib.hid (fun w => l04Is_any s w hs (b := true) (by rw [hR]; rfl))
    have HN := Lib.hid (fun w => l04Inputs_any s w hs)
    have hbi := inTo_bd s s.size
    by_cases hn : inTo s s.size ≤ n ∧ n ≤ 5
    · rw [tof_in hR hn]
      have HX := Lib.hid hn
      have HT := Lib.hid (fun w => l04Table_any t n w hw (by omega) (by omega) hn.2)
      rw [← hst] at HT
      clear hR hn hw hst h80
      generalize inTo s s.size = m at *
      go_enter Try.func22, Try.ntmps22
      go_wp2_with (first | (go_at_call 29; (with_reducible refine (HI.out _).mono ?_); rintro e w' ⟨rfl, rfl⟩) | (go_at_call 31; (with_reducible refine (HN.out _).mono ?_); rintro e w' ⟨rfl, rfl⟩) | (go_at_call 30; (with_reducible refine (l01In_yes _ _ _ _ HX.out).mono ?_); rintro e w' ⟨rfl, rfl⟩) | (go_at_call 44; (with_reducible refine (HT.out _).mono ?_); rintro e w' ⟨rfl, hb⟩; have hL := chain (B := w.heap.size) (a := w) (by go_grown) (Nat.le_refl _) hb; (first | replace k0 := keepAt hb k0 | replace k0 := keepAt hb (C2.alloc k0 _)); clear hb))
      refine bodyPost_ret (v := .tuple #[.agg #[.int .i64 n, .int .i64 (tabTo t (2 ^ n.toNat))], .int .i64 0]) (by simp [results, Try.results22, go_sem, *]) rfl ?_
      exact ⟨rfl, by go_grown⟩
    · rw [tof_out hR hn]
      have HX := Lib.hid hn
      clear hR hn hw hst h80
      generalize inTo s s.size = m at *
      go_enter Try.func22, Try.ntmps22
      go_wp2_with (first | (go_at_call 29; (with_reducible refine (HI.out _).mono ?_); rintro e w' ⟨rfl, rfl⟩) | (go_at_call 31; (with_reducible refine (HN.out _).mono ?_); rintro e w' ⟨rfl, rfl⟩) | (go_at_call 30; (with_reducible refine (l01In_no _ _ _ _ HX.out).mono ?_); rintro e w' ⟨rfl, rfl⟩))
      refine bodyPost_ret (v := .tuple #[.agg #[.int .i64 0, .int .i64 0], .int .i64 2]) (by simp [results, Try.results22, go_sem, *]) rfl ?_
      exact ⟨rfl, by go_grown⟩

end Go.Proofs.Ytohmhiodmaahfaa
