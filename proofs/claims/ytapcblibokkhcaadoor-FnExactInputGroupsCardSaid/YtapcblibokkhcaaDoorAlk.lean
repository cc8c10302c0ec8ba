/- alike, and the search for the group of an input: the program's. -/
import Derived.Test.YtapcblibokkhcaaDoorAlB
import Derived.Test.YtapcblibokkhcaaDoorOwn
import Derived.Shelf.Abstract
namespace Go.Proofs.YtapcblibokkhcaaDoor
open Go.RowKit
set_option linter.unusedVariables false

theorem partVals_bd (n v i a : Int) (n1 : 1 ≤ n) (n5 : n ≤ 5) : 0 ≤ partVals n v i a ∧ partVals n v i a < 9223372036854775808 := by
  unfold partVals buildZ
  have h := build_lt (fun j => dig v.toNat (partRow i a j).toNat) (2 ^ n.toNat)
  have h2 : 2 ^ n.toNat ≤ 2 ^ 5 := Nat.pow_le_pow_right (by decide) (by omega)
  have h3 : 2 ^ 2 ^ n.toNat ≤ 2 ^ 32 := Nat.pow_le_pow_right (by decide) h2
  omega

set_option maxRecDepth 100000 in
set_option maxHeartbeats 2000000 in
theorem alike_num (n v i j A B A2 B2 : Int) (w : World) (n1 : 1 ≤ n) (n5 : n ≤ 5) (h0 : 0 ≤ v) (hv : v < 9223372036854775808) (i0 : 0 ≤ i) (in_ : i < n) (j0 : 0 ≤ j) (jn : j < n)
    (hA : partVals n v i 1 = A) (hB : partVals n v i 0 = B) (hA2 : partVals n A j 0 = A2) (hB2 : partVals n B j 1 = B2) {b : Bool} (hb : (A2 == B2) = b) :
    Calls Tryd.prog 61 #[.agg #[.int .i64 n, .int .i64 v], .int .i64 i, .int .i64 j] w fun e w' => e = .returned (.bool b) ∧ Below w.heap.size w w' := by
  have HA : Hid (0 ≤ A ∧ A < 9223372036854775808) := by rw [← hA]; exact partVals_bd n v i 1 n1 n5
  have HB : Hid (0 ≤ B ∧ B < 9223372036854775808) := by rw [← hB]; exact partVals_bd n v i 0 n1 n5
  have C1 : Hid (∀ w, Calls Tryd.prog 65 #[.agg #[.int .i64 n, .int .i64 v], .int .i64 i, .int .i64 1] w fun e w' => e = .returned (.agg #[.int .i64 n, .int .i64 A]) ∧ Below w.heap.size w w') := fun w => by rw [← hA]; exact part_any n v i 1 w n1 n5 h0 hv i0 in_ (by decide) (by decide)
  have C0 : Hid (∀ w, Calls Tryd.prog 65 #[.agg #[.int .i64 n, .int .i64 v], .int .i64 i, .int .i64 0] w fun e w' => e = .returned (.agg #[.int .i64 n, .int .i64 B]) ∧ Below w.heap.size w w') := fun w => by rw [← hB]; exact part_any n v i 0 w n1 n5 h0 hv i0 in_ (by decide) (by decide)
  have D1 : Hid (∀ w, Calls Tryd.prog 65 #[.agg #[.int .i64 n, .int .i64 A], .int .i64 j, .int .i64 0] w fun e w' => e = .returned (.agg #[.int .i64 n, .int .i64 A2]) ∧ Below w.heap.size w w') := fun w => by rw [← hA2]; exact part_any n A j 0 w n1 n5 HA.out.1 HA.out.2 j0 jn (by decide) (by decide)
  have D0 : Hid (∀ w, Calls Tryd.prog 65 #[.agg #[.int .i64 n, .int .i64 B], .int .i64 j, .int .i64 1] w fun e w' => e = .returned (.agg #[.int .i64 n, .int .i64 B2]) ∧ Below w.heap.size w w') := fun w => by rw [← hB2]; exact part_any n B j 1 w n1 n5 HB.out.1 HB.out.2 j0 jn (by decide) (by decide)
  have hnn : (n == n) = true := by simp
  have k0 := C2.here w (.int .i64 n) (.int .i64 v) 26
  clear hA hB hA2 hB2 HA HB
  cases b
  all_goals
    go_enter Tryd.func61, Tryd.ntmps61
    go_upto_region 1 with fail
    have hL : Below w.heap.size w (w.alloc (.cells #[.int .i64 n, .int .i64 v] 26)) := (Below.refl _ _).alloc (Nat.le_refl _) _
    go_cut [6] (fun s6 wx => s6 = .bool (A2 == B2) ∧ Below w.heap.size w wx)
    case first =>
      go_region_held3 (fun wx => C2 wx w.heap.size (.int .i64 n) (.int .i64 v)) (exact k0)
        ((go_at_call 65; (first | (with_reducible refine (C1.out _).mono ?_) | (with_reducible refine (C0.out _).mono ?_) | (with_reducible refine (D1.out _).mono ?_) | (with_reducible refine (D0.out _).mono ?_)); rintro e w' ⟨rfl, hb⟩; have hL := chain (B := w.heap.size) (a := w) (by first | exact hL | go_grown) (Nat.le_refl _) hb; replace k0 := keepAt hb (show C2 _ w.heap.size (.int .i64 n) (.int .i64 v) from k0); clear hb))
      all_goals (go_wp2_with fail; go_meet; exact ⟨by rw [hb], hL⟩)
    case rest =>
    obtain ⟨rfl, hL2⟩ := hcut
    go_wp2_with fail
    go_ret
    exact ⟨by simp [hb], hL2⟩

theorem alike_any (v : Int) (N i j : Nat) (w : World) (n1 : 1 ≤ N) (n5 : N ≤ 5) (h0 : 0 ≤ v) (hv : v < 9223372036854775808) (hi : i < N) (hj : j < N) (hij : i ≠ j) {b : Bool} (hb : alB v N i j = b) :
    Calls Tryd.prog 61 #[.agg #[.int .i64 (N : Int), .int .i64 v], .int .i64 (i : Int), .int .i64 (j : Int)] w fun e w' => e = .returned (.bool b) ∧ Below w.heap.size w w' := by
  refine alike_num (N : Int) v (i : Int) (j : Int) _ _ _ _ w (by omega) (by omega) h0 hv (by omega) (by omega) (by omega) (by omega) rfl rfl rfl rfl ?_
  rw [← hb]
  unfold alB
  rw [Bool.eq_iff_iff, beq_iff_eq, decide_eq_true_iff, partPart_eq n5 hi hj, AlP_iff n5 hi hj hij]

set_option maxRecDepth 100000 in
set_option maxHeartbeats 2000000 in
theorem groupClos_any (v : Int) (N h i len cap bt bi gg go_ : Nat) (w : World) (n1 : 1 ≤ N) (n5 : N ≤ 5) (h0 : 0 ≤ v) (hv : v < 9223372036854775808) (hh : h < N) (hi : i < N) (hij : h ≠ i) (hlen : 1 ≤ len)
    (kt : C2 w bt (.int .i64 (N : Int)) (.int .i64 v)) (ki : w.cell? ⟨bi, 0, none⟩ = some (.int .i64 (i : Int))) (kh : w.cell? ⟨gg, go_, none⟩ = some (.int .i64 (h : Int))) {b : Bool} (hb : alB v N h i = b) :
    Calls Tryd.prog 60 #[.slice (some ⟨gg, go_, none⟩) len cap, .pointer (some ⟨bt, 0, none⟩), .pointer (some ⟨bi, 0, none⟩)] w fun e w' => e = .returned (.bool b) ∧ Below w.heap.size w w' := by
  have HC := Lib.hid (fun w => alike_any v N h i w n1 n5 h0 hv hh hi hij hb)
  have hl0 : (0 : Int) < (len : Int) := by omega
  have hl1 : 0 < len := by omega
  have hL : Below w.heap.size w w := Below.refl _ _
  clear hb
  go_enter Tryd.func60, Tryd.ntmps60
  go_upto_region 1 with fail
  go_cut [4] (fun s4 wx => s4 = .bool b ∧ Below w.heap.size w wx)
  case first =>
    go_region_held3 (fun wx => C2 wx bt (.int .i64 (N : Int)) (.int .i64 v) ∧ wx.cell? ⟨bi, 0, none⟩ = some (.int .i64 (i : Int)) ∧ wx.cell? ⟨gg, go_, none⟩ = some (.int .i64 (h : Int))) (exact ⟨kt, ki, kh⟩)
      ((go_at_call 61; (with_reducible refine (HC.out _).mono ?_); rintro e w' ⟨rfl, hb⟩; have hL := chain (B := w.heap.size) (a := w) (by first | exact hL | go_grown) (Nat.le_refl _) hb; replace kt := keepAt hb (show C2 _ bt (.int .i64 (N : Int)) (.int .i64 v) from kt); replace ki := cell_later hb ki; replace kh := cell_later hb kh; clear hb))
    all_goals (go_wp2_with fail; go_meet; exact ⟨rfl, hL⟩)
  case rest =>
  obtain ⟨rfl, hL2⟩ := hcut
  go_wp2_with fail
  go_ret
  exact ⟨rfl, hL2⟩

set_option maxRecDepth 100000 in
set_option maxHeartbeats 1000000 in
theorem indexFuncR_any (a : Option Addr) (n cap : Nat) (V : Nat → Value) (F : Nat) (caps : Array Value) (p : Nat → Bool) (j : Nat) (w : World) (hn : n ≤ 1048576)
    (ha : ∀ i, i < n → ∃ g, a = some ⟨g, 0, none⟩ ∧ w.cell? ⟨g, i, none⟩ = some (V i))
    (hj : j ≤ n) (hno : ∀ i, i < j → p i = false) (hyes : j < n → p j = true)
    (hf : ∀ (i : Nat) (wx : World), i < n → Below w.heap.size w wx → Calls Tryd.prog F (#[V i] ++ caps) wx fun e w' => e = .returned (.bool (p i)) ∧ Below wx.heap.size wx w')
    (hE : ∀ (args : Array Value) (w : World), (callFunc F args).run Tryd.prog w = .ok (.enter F args) w) {r : Int} (hr : (if j < n then (j : Int) else -1) = r) :
    Calls Tryd.prog 59 #[.slice a n cap, .func (.func F) #[] caps] w fun e w' => e = .returned (.int .i64 r) ∧ Below w.heap.size w w' := by
  have Ha := Lib.hid ha
  have Hf := Lib.hid hf
  have Hno := Lib.hid hno
  have Hyes := Lib.hid hyes
  have Hr := Lib.hid hr
  have hn63 : n ≤ 9223372036854775807 := by omega
  clear ha hf hno hyes hr
  go_enter Tryd.func59, Tryd.ntmps59
  go_wp2_with fail
  go_loopw [8] (fun c wr => ∃ k : Nat, k ≤ j ∧ c = .int .i64 (k : Int) ∧ Below w.heap.size w wr) (fun c _ => n - (intOf c).toNat)
  case atStart => exact ⟨0, Nat.zero_le _, rfl, Below.refl _ _⟩
  case round =>
    obtain ⟨k, hk, rfl, hL⟩ := hrel
    by_cases hlt : k < n
    · obtain ⟨g, rfl, hca0⟩ := Ha.out k hlt
      have hca := cell_later hL hca0
      have hi1 : (k : Int) < (n : Int) := by omega
      have hi0 : (0 : Int) ≤ (k : Int) := by omega
      by_cases hkj : k < j
      · have HC : Hid (∀ wx, Below w.heap.size w wx → Calls Tryd.prog F (#[V k] ++ caps) wx fun e w' => e = .returned (.bool false) ∧ Below wx.heap.size wx w') := fun wx hb => by
          have := Hf.out k wx hlt hb
          rwa [Hno.out k hkj] at this
        clear hca0
        generalize V k = x at *
        go_wp2_with ((with_reducible refine (HC.out _ (by first | exact hL | go_grown)).mono ?_); rintro e w' ⟨rfl, hb⟩; have hL := chain (B := w.heap.size) (a := w) hL (Nat.le_refl _) hb; clear hb)
        go_roundw
        case rel => exact ⟨k + 1, by omega, by go_num, hL⟩
        case measure => simp [intOf]; omega
      · have e : k = j := by omega
        subst e
        have HC : Hid (∀ wx, Below w.heap.size w wx → Calls Tryd.prog F (#[V k] ++ caps) wx fun e w' => e = .returned (.bool true) ∧ Below wx.heap.size wx w') := fun wx hb => by
          have := Hf.out k wx hlt hb
          rwa [Hyes.out hlt] at this
        have HR : Hid (r = (k : Int)) := by have := Hr.out; rw [if_pos hlt] at this; exact this.symm
        clear hca0
        generalize V k = x at *
        go_wp2_with ((with_reducible refine (HC.out _ (by first | exact hL | go_grown)).mono ?_); rintro e w' ⟨rfl, hb⟩; have hL := chain (B := w.heap.size) (a := w) hL (Nat.le_refl _) hb; clear hb)
        go_ret
        exact ⟨by rw [HR.out]; rfl, hL⟩
    · have HR : Hid (r = -1) := by have := Hr.out; rw [if_neg (by omega)] at this; exact this.symm
      go_wp2_with fail
      go_ret
      exact ⟨by rw [HR.out]; rfl, hL⟩

end Go.Proofs.YtapcblibokkhcaaDoor
