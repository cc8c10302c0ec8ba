/- NumbersOf: the program's. -/
import Derived.Test.YtapcblibokkhcaaDoorNuM
import Derived.Test.YtapcblibokkhcaaDoorSyI
import Derived.Test.YtapcblibokkhcaaDoorDoorR
import Derived.Test.YtapcblibokkhcaaDoorSets
namespace Go.Proofs.YtapcblibokkhcaaDoor
open Go.RowKit
set_option linter.unusedVariables false

set_option maxRecDepth 100000 in
set_option maxHeartbeats 2000000 in
theorem numbersOf_any (n v : Int) (w : World) (ht : isTab n v = true) :
    Calls Tryd.prog 37 #[.agg #[.int .i64 n, .int .i64 v]] w fun e w' => ∃ u, e = .returned (.tuple #[u, .int .i64 (resNumbersOf_1 n v)]) ∧ Owns w' w.heap.size u (resNumbersOf_0 n v) ∧ Below w.heap.size w w' := by
  obtain ⟨n1, n5, h0, hv⟩ := tab_bd ht
  obtain ⟨N, rfl⟩ := Int.eq_ofNat_of_zero_le (show 0 ≤ n by omega)
  have k0 := C2.here w (.int .i64 (N : Int)) (.int .i64 v) 26
  cases hb : symB v N
  · have HS := Lib.hid (fun w => isSymmetric_any v N w (by omega) (by omega) h0 hv hb)
    have H0 : Hid (resNumbersOf_0 (N : Int) v = []) := by unfold Hid resNumbersOf_0; rw [Int.toNat_natCast, hb]; simp
    have H1 : Hid (resNumbersOf_1 (N : Int) v = 5) := by unfold Hid resNumbersOf_1; rw [Int.toNat_natCast, hb, ht]; rfl
    clear hb ht
    go_enter Tryd.func37, Tryd.ntmps37
    go_wp2_with (go_at_call 34; (with_reducible refine (HS.out _).mono ?_); rintro e w1 ⟨rfl, hb⟩; have hL := chain (B := w.heap.size) (a := w) (by go_grown) (Nat.le_refl _) hb; clear hb)
    go_ret2
    exact ⟨_, by rw [H1.out]; rfl, by rw [H0.out]; exact World.ownsRow_nil _ _ _ _, hL⟩
  · have HS := Lib.hid (fun w => isSymmetric_any v N w (by omega) (by omega) h0 hv hb)
    have H0 : Hid (resNumbersOf_0 (N : Int) v = onesTo (numS v (N + 1)) 62) := by unfold Hid resNumbersOf_0; rw [Int.toNat_natCast, hb, ht, numL_all v (by omega)]; rfl
    have H1 : Hid (resNumbersOf_1 (N : Int) v = 0) := by unfold Hid resNumbersOf_1; rw [Int.toNat_natCast, hb, ht]; rfl
    obtain ⟨P, hP⟩ : ∃ P, N + 1 = P := ⟨_, rfl⟩
    rw [hP] at H0
    have hZ : (N : Int) + 1 = (P : Int) := by omega
    have hP6 : P ≤ 6 := by omega
    have HM : Hid (∀ w, Calls Tryd.prog 56 #[.int .i64 (numS v P)] w fun e w' => ∃ u, e = .returned u ∧ Owns w' w.heap.size u (onesTo (numS v P) 62) ∧ Below w.heap.size w w') := fun w => by
      have := numS_bd v (b := P) (by omega)
      exact membersOf_any _ w (by omega) (by omega)
    clear hb ht hP
    go_enter Tryd.func37, Tryd.ntmps37
    go_wp2_with (go_at_call 34; (with_reducible refine (HS.out _).mono ?_); rintro e w1 ⟨rfl, hb⟩; have hL := chain (B := w.heap.size) (a := w) (by go_grown) (Nat.le_refl _) hb; have k1 := keepAt hb k0; clear hb)
    clear hZ
    go_loopw [4, 13] (fun s c wr => ∃ k : Nat, k ≤ P ∧ c = .int .i64 (k : Int) ∧ s = .int .i64 (numS v k) ∧ Below w.heap.size w wr ∧ C2 wr w.heap.size (.int .i64 (N : Int)) (.int .i64 v)) (fun _ c _ => P - (intOf c).toNat)
    case atStart => exact ⟨0, Nat.zero_le _, rfl, rfl, hL, k1⟩
    case round =>
      clear hL k0 k1
      obtain ⟨k, hk, rfl, rfl, hL, k0⟩ := hrel
      by_cases hlt : k < P
      · have hi0 : (0 : Int) ≤ (k : Int) := by omega
        have hi1 : (k : Int) < (P : Int) := by omega
        obtain ⟨W, hW⟩ : ∃ W, 2 ^ k = W := ⟨_, rfl⟩
        have hWb : 1 ≤ W ∧ W ≤ 32 := by
          rw [← hW]
          have : 2 ^ k ≤ 2 ^ 5 := Nat.pow_le_pow_right (by decide) (by omega)
          have := Nat.two_pow_pos k
          omega
        have hw : wrap64 (2 ^ k) = (W : Int) := by rw [two_wrap5 (by omega), hW]
        have HSt := Lib.hid (numS_step v (show k < 32 by omega) hW hWb.1)
        have HV := Lib.hid (fun w => valueAt_any (N : Int) v ((W : Int) - 1) w h0 hv (by omega) (by omega))
        obtain ⟨W1, W2⟩ := hWb
        clear hW
        go_wp2_with (go_at_call 30; (with_reducible refine (HV.out _).mono ?_); rintro e w1 ⟨rfl, hb⟩; have hL := chain (B := w.heap.size) (a := w) hL (Nat.le_refl _) hb; have k1 := keepAt hb k0; clear hb)
        exact ⟨⟨k + 1, by omega, by go_num, by rw [HSt.out], hL, k1⟩, by simp [intOf]; omega⟩
      · have e : k = P := by omega
        subst e
        go_wp2_with (go_at_call 56; (with_reducible refine (HM.out _).mono ?_); rintro e w1 ⟨u, rfl, ou, hb⟩; have hz := hL.size; have hL := chain (B := w.heap.size) (a := w) hL (Nat.le_refl _) hb; clear hb)
        go_ret2
        exact ⟨_, by rw [H1.out]; rfl, by rw [H0.out]; exact ou.mono hz, hL⟩

set_option maxRecDepth 100000 in
set_option maxHeartbeats 1000000 in
theorem iNumbersOf_any (n v : Int) (a : Addr) (w : World) (hg : w.cell? ⟨0, 0, none⟩ = some (errV a)) :
    Calls Tryd.prog 14 #[.agg #[.int .i64 n, .int .i64 v]] w fun e w' => ∃ u, e = .returned (.tuple #[u, .int .i64 (resNumbersOf_1 n v)]) ∧ Owns w' w.heap.size u (resNumbersOf_0 n v) ∧ Below w.heap.size w w' := by
  by_cases ht : isTab n v = true
  · have HT := Lib.hid ht
    have HCL : Hid (∀ wx : World, Calls Tryd.prog 37 #[.agg #[.int .i64 n, .int .i64 v]] wx fun e w' => ∃ u, e = .returned (.tuple #[u, .int .i64 (resNumbersOf_1 n v)]) ∧ Owns w' wx.heap.size u (resNumbersOf_0 n v) ∧ Below wx.heap.size wx w') := fun wx => numbersOf_any n v wx HT.out
    clear ht
    generalize resNumbersOf_1 n v = c at *
    generalize resNumbersOf_0 n v = l at *
    go_enter Tryd.func14, Tryd.ntmps14
    go_wp2_with fail
    refine (doorRow_yes n v 37 #[] l c _ HT.out (fun wx _ => HCL.out wx) (enters_of Tryd.func37 (by kernel_rfl) rfl)).mono ?_
    rintro e w1 ⟨u, rfl, ou, hb⟩
    have hL := chain (B := w.heap.size) (a := w) (by go_grown) (Nat.le_refl _) hb
    have hou := ou.mono (base' := w.heap.size) (by simp)
    clear hb ou
    go_wp2_with fail
    refine bodyPost_ret (v := .tuple #[u, .int .i64 c]) (by simp [results, Tryd.results14, go_sem, *]) rfl ?_
    exact ⟨u, rfl, hou, hL⟩
  · have ht : isTab n v = false := by simpa using ht
    have HT := Lib.hid ht
    have HC : Hid (resNumbersOf_1 n v = 1) := by unfold Hid resNumbersOf_1; rw [ht]; rfl
    have HR : Hid (resNumbersOf_0 n v = []) := by unfold Hid resNumbersOf_0; rw [ht]; rfl
    clear ht
    have cg : (w.alloc (.cells #[.int .i64 n, .int .i64 v] 26)).cell? ⟨0, 0, none⟩ = some (errV a) := cell_later (by go_grown) hg
    have Hg := Lib.hid cg
    clear cg
    go_enter Tryd.func14, Tryd.ntmps14
    go_wp2_with fail
    refine (doorRow_no n v a 37 _ _ HT.out Hg.out).mono ?_
    rintro e w1 ⟨rfl, hb⟩
    have hL := chain (B := w.heap.size) (a := w) (by go_grown) (Nat.le_refl _) hb
    clear hb
    go_wp2_with fail
    refine bodyPost_ret (v := .tuple #[.slice none 0 0, .int .i64 1]) (by simp [results, Tryd.results14, go_sem, *]) rfl ?_
    exact ⟨_, by rw [HC.out], by rw [HR.out]; exact World.ownsRow_nil _ _ _ _, hL⟩

end Go.Proofs.YtapcblibokkhcaaDoor
