/- TableText: the model's. -/
import Derived.Test.YtapcblibokkhcaaDoorTtM
import Derived.Test.YtapcblibokkhcaaDoorAt
import Derived.Test.YtapcblibokkhcaaDoorOwn
import Derived.LoopTactic
namespace Go.Proofs.YtapcblibokkhcaaDoor
open Go.RowKit
set_option linter.unusedVariables false

theorem text_one (c : Int) (w : World) (h0 : 0 ≤ c) (h1 : c < 256) :
    (convert 43 9 (.slice (some ⟨w.heap.size, 0, none⟩) 1 1)).run Tryd.prog (w.alloc (.cells #[.int .u8 c] 5)) = .ok (.string (strZ [c])) (w.alloc (.cells #[.int .u8 c] 5)) := by
  have h : OwnsU (w.alloc (.cells #[.int .u8 c] 5)) w.heap.size (.slice (some ⟨w.heap.size, 0, none⟩) 1 1) [c] :=
    ⟨rfl, .inr ⟨w.heap.size, 1, _, rfl, Nat.le_refl _, heap_alloc_new w _, Nat.le_refl _, by decide, rfl, rfl⟩⟩
  exact OwnsU.text h (by simp; omega) _ _ 5 Tryd.underlying43 Tryd.underlying5 Tryd.underlying9

set_option maxRecDepth 100000 in
set_option maxHeartbeats 1000000 in
theorem l01Dec_any (n : Int) (w : World) (n1 : 0 ≤ n) (n5 : n ≤ 9) :
    Calls Tryd.prog 47 #[.int .i64 n] w fun e w' => e = .returned (.string (strZ [48 + n])) ∧ Below w.heap.size w w' := by
  have hW : IntKind.u8.wrap (48 + n) = 48 + n := IntWalk.u8_in _ (by omega)
  have HT := text_one (48 + n) w (by omega) (by omega)
  go_enter Tryd.func47, Tryd.ntmps47
  go_wp2_with fail
  go_ret
  exact ⟨rfl, by go_grown⟩

theorem strZ_size (l : List Int) : (strZ l).size = l.length := by
  show (strZ l).data.size = _
  simp [strZ]
theorem str_succ (n v : Int) (k : Nat) : strZ (txtZ n v k) ++ strZ [48 + digZ v (k : Int)] = strZ (txtZ n v (k + 1)) := by
  rw [strZ_append, txtZ_succ]
theorem str_zero (n v : Int) : strZ [48 + n] ++ (⟨#[58]⟩ : ByteArray) = strZ (txtZ n v 0) := by
  have : (⟨#[58]⟩ : ByteArray) = strZ [58] := rfl
  rw [this, strZ_append]; rfl

set_option maxRecDepth 100000 in
set_option maxHeartbeats 1000000 in
theorem l01Text_any (n v : Int) (w : World) (n1 : 1 ≤ n) (n5 : n ≤ 5) (h0 : 0 ≤ v) (hv : v < 9223372036854775808) :
    Calls Tryd.prog 26 #[.agg #[.int .i64 n, .int .i64 v]] w fun e w' => e = .returned (.string (strZ (txtZ n v (2 ^ n.toNat)))) ∧ Below w.heap.size w w' := by
  have Hr : Hid (rcZ n = ((2 ^ n.toNat : Nat) : Int)) := rfl
  have hr := rcZ_bd n1 n5
  have HZ := str_zero n v
  have hs0 : (strZ [48 + n]).size = 1 := rfl
  have HC := Lib.hid (fun n w => l01Dec_any n w)
  have k0 : C2 (w.alloc (.cells #[.int .i64 n, .int .i64 v] 26)) (w.heap.size) (.int .i64 n) (.int .i64 v) := by simpa using C2.here w (.int .i64 n) (.int .i64 v) 26
  go_enter Tryd.func26, Tryd.ntmps26
  go_wp2_with (go_at_call 47; (with_reducible refine (HC.out _ _ (by omega) (by omega)).mono ?_); rintro e w1 ⟨rfl, hb⟩; have hL := chain (B := w.heap.size) (a := w) (by go_grown) (Nat.le_refl _) hb; replace k0 := keepAt hb k0; clear hb)
  go_loopw [4, 3] (fun c s3 wr => ∃ k : Nat, (k : Int) ≤ rcZ n ∧ c = .int .i64 (k : Int) ∧ s3 = .string (strZ (txtZ n v k)) ∧ Below w.heap.size w wr ∧ C2 wr w.heap.size (.int .i64 n) (.int .i64 v))
    (fun c _ _ => (rcZ n - intOf c).toNat)
  case atStart => exact ⟨0, by omega, rfl, rfl, by go_grown, k0⟩
  case round =>
    clear k0 hL
    obtain ⟨k, hk, rfl, rfl, hL, k0⟩ := hrel
    by_cases hlt : (k : Int) < rcZ n
    · have hd := digZ_bd v (k : Int)
      have HS := str_succ n v k
      have hsk : (strZ (txtZ n v k)).size = k + 2 := by rw [strZ_size, txtZ_len]
      have hs1 : (strZ [48 + digZ v (k : Int)]).size = 1 := rfl
      have HA := Lib.hid (fun w => l01At_any n v (k : Int) w h0 hv (by omega) (by omega))
      generalize hdz : digZ v (k : Int) = d at *
      go_wp2_with (first | (go_at_call 42; (with_reducible refine (l01Rows_any _ _ n1 n5).mono ?_); rintro e w' ⟨rfl, rfl⟩) | (go_at_call 43; (with_reducible refine (HA.out _).mono ?_); rintro e w1 ⟨rfl, hb⟩; have hL := chain (B := w.heap.size) (a := w) (by go_grown) (Nat.le_refl _) hb; replace k0 := keepAt hb k0; clear hb) | (go_at_call 47; (with_reducible refine (HC.out _ _ (by omega) (by omega)).mono ?_); rintro e w2 ⟨rfl, hb⟩; have hL := chain (B := w.heap.size) (a := w) (by go_grown) (Nat.le_refl _) hb; replace k0 := keepAt hb k0; clear hb))
      exact ⟨⟨k + 1, by omega, by go_num, rfl, by go_grown, k0⟩, by simp [intOf]; omega⟩
    · have Hk : Hid ((k : Nat) = 2 ^ n.toNat) := by have := Hr.out; unfold Hid; omega
      go_wp2_with ((go_at_call 42; (with_reducible refine (l01Rows_any _ _ n1 n5).mono ?_); rintro e w' ⟨rfl, rfl⟩))
      go_ret
      exact ⟨by rw [Hk.out]; rfl, by go_grown⟩

theorem sTableText_any (n v : Int) (w : World) :
    Calls Tryd.prog 8 #[.agg #[.int .i64 n, .int .i64 v]] w fun e w' => e = .returned (.tuple #[.string (resTableText_0 n v), .int .i64 (resTableText_1 n v)]) ∧ Below w.heap.size w w' := by
  have k0 : C2 (w.alloc (.cells #[.int .i64 n, .int .i64 v] 26)) (w.heap.size) (.int .i64 n) (.int .i64 v) := by simpa using C2.here w (.int .i64 n) (.int .i64 v) 26
  by_cases ht : isTab n v = true
  · obtain ⟨n1, n5, h0, hv⟩ := tab_bd ht
    have hr : Hid (resTableText_0 n v = strZ (txtZ n v (2 ^ n.toNat)) ∧ resTableText_1 n v = 0) := by unfold Hid resTableText_0 resTableText_1; rw [if_pos ht, if_pos ht]; exact ⟨rfl, rfl⟩
    have Ht := Lib.hid ht
    have HT := Lib.hid (fun w => l01Text_any n v w n1 n5 h0 hv)
    clear ht
    go_enter Tryd.func8, Tryd.ntmps8
    go_wp2_with (first | (go_at_call 25; (with_reducible refine (l01Is_b _ _ _ Ht.out).mono ?_); rintro e w' ⟨rfl, hb⟩; have hL := chain (B := w.heap.size) (a := w) (by go_grown) (Nat.le_refl _) hb; (first | replace k0 := keepAt hb k0 | replace k0 := keepAt hb (C2.alloc k0 _)); clear hb) | (go_at_call 26; (with_reducible refine (HT.out _).mono ?_); rintro e w' ⟨rfl, hb⟩; have hL := chain (B := w.heap.size) (a := w) (by go_grown) (Nat.le_refl _) hb; (first | replace k0 := keepAt hb k0 | replace k0 := keepAt hb (C2.alloc k0 _)); clear hb))
    refine bodyPost_ret (v := .tuple #[.string (strZ (txtZ n v (2 ^ n.toNat))), .int .i64 0]) (by simp [results, Tryd.results8, go_sem, *]) rfl ?_
    exact ⟨by rw [hr.out.1, hr.out.2], by go_grown⟩
  · have hr : Hid (resTableText_0 n v = ⟨#[]⟩ ∧ resTableText_1 n v = 1) := by unfold Hid resTableText_0 resTableText_1; rw [if_neg ht, if_neg ht]; exact ⟨rfl, rfl⟩
    have Ht : Hid (isTab n v = false) := by unfold Hid; simpa using ht
    clear ht
    go_enter Tryd.func8, Tryd.ntmps8
    go_wp2_with (first | (go_at_call 25; (with_reducible refine (l01Is_b _ _ _ Ht.out).mono ?_); rintro e w' ⟨rfl, hb⟩; have hL := chain (B := w.heap.size) (a := w) (by go_grown) (Nat.le_refl _) hb; (first | replace k0 := keepAt hb k0 | replace k0 := keepAt hb (C2.alloc k0 _)); clear hb))
    refine bodyPost_ret (v := .tuple #[.string ⟨#[]⟩, .int .i64 1]) (by simp [results, Tryd.results8, go_sem, *]) rfl ?_
    exact ⟨by rw [hr.out.1, hr.out.2], by go_grown⟩

end Go.Proofs.YtapcblibokkhcaaDoor
