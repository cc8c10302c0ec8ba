/- The contacts of a formula: lettersOf, hasInputsBelow; l04Count, l04Inputs. -/
import Derived.Test.YtohmhiodmaahfaaLtM
import Derived.Test.YtohmhiodmaahfaaDel
import Derived.Test.YtohmhiodmaahfaaFvS
namespace Go.Proofs.Ytohmhiodmaahfaa
open Go.RowKit
set_option linter.unusedVariables false

theorem Byt.drew1 {w : World} {g n : Nat} {c : Nat → Int} (h : Byt w g n c) : Byt w.drew g n c := h
theorem noLetter_any (x : Int) (w : World) (h0 : 0 ≤ x) (h1 : x < 256) {b : Bool} (hb : noLet x = b) :
    Calls Try.prog 61 #[.int .u8 x] w fun e w' => e = .returned (.bool b) ∧ Below w.heap.size w w' := by
  have HC := Lib.hid (fun w => isContactLetter_any x w h0 h1 (b := !b) (by rw [← hb]; unfold noLet; simp))
  clear hb
  cases b
  all_goals
    go_enter Try.func61, Try.ntmps61
    go_wp2_with (go_at_call 51; (with_reducible refine (HC.out _).mono ?_); rintro e w' ⟨rfl, rfl⟩)
    go_ret
    exact ⟨rfl, Below.refl _ _⟩

set_option maxRecDepth 100000 in
set_option maxHeartbeats 1000000 in
theorem lettersOf_any (s : ByteArray) (w : World) (hs : s.size ≤ 1048576) :
    Calls Try.prog 54 #[.string s] w fun e w' => ∃ cap, e = .returned (.slice (some ⟨w.heap.size, 0, none⟩) (lets s s.size).length cap) ∧ Byt w' w.heap.size (lets s s.size).length (fun j => (lets s s.size).getD j 0) ∧ Below w.heap.size w w' := by
  have hcv := fun (w : World) => run_bytes_of_string (P := Try.prog) w 9 73 5 s Try.underlying9 Try.underlying73 Try.underlying5
  have HB := Lib.hid (fun (w : World) (cap : Nat) => Byt.new w s cap 5)
  have hge := grownCap_ge w s.size 0 5
  have hle := grownCap_le_maxLen w s.size 0 5 (by unfold maxLen; omega)
  unfold maxLen at hle
  have HP : Hid (∀ w, PredB 61 #[] noLet w.heap.size w) := fun w => ⟨fun x wx h0 h1 _ _ => noLetter_any x wx h0 h1 rfl, enters_of Try.func61 (by kernel_rfl) rfl⟩
  have HBD : Hid (∀ i, 0 ≤ byteAt s i ∧ byteAt s i < 256) := fun i => byteAt_bd s i
  go_enter Try.func54, Try.ntmps54
  go_wp2_with fail
  clear hcv
  generalize grownCap w s.size 0 5 = cap at *
  have hB0 := Byt.drew1 (HB.out w cap)
  have hL0 : Below w.heap.size w (w.alloc (.cells (bytesRow s cap) 5 ((bytesRow s cap).size, (bytesRow s cap).size + 1))).drew := Bdrew ((Below.refl _ _).alloc (Nat.le_refl _) _) 1
  have hP : PredB 61 #[] noLet w.heap.size (w.alloc (.cells (bytesRow s cap) 5 ((bytesRow s cap).size, (bytesRow s cap).size + 1))).drew := ⟨fun x wx h0 h1 _ _ => noLetter_any x wx h0 h1 rfl, enters_of Try.func61 (by kernel_rfl) rfl⟩
  have HD := deleteFuncB_any w.heap.size s.size cap (byteAt s) 61 #[] noLet _ hs hge (by omega) hB0 HBD.out hP
  refine HD.mono ?_
  rintro e w1 ⟨rfl, hB1, hL1⟩
  have hL := hL0.trans hL1
  clear hL0 hL1 hB0 hP HD HB hge hle HBD HP
  have HB1 : Hid (Byt w1 w.heap.size (lets s s.size).length (fun j => (lets s s.size).getD j 0)) := hB1
  clear hB1
  go_wp2_with fail
  go_ret
  exact ⟨_, rfl, HB1.out, hL⟩

set_option maxRecDepth 100000 in
set_option maxHeartbeats 1000000 in
theorem l04Inputs_any (s : ByteArray) (w : World) (hs : s.size ≤ 1048576) :
    Calls Try.prog 31 #[.string s] w fun e w' => e = .returned (.int .i64 (inTo s s.size)) ∧ w = w' := by
  have hs63 : s.size ≤ 9223372036854775807 := by omega
  go_enter Try.func31, Try.ntmps31
  go_wp2_with fail
  go_loop [3, 4] (fun n c => ∃ k : Nat, k ≤ s.size ∧ c = .int .i64 (k : Int) ∧ n = .int .i64 (inTo s k)) (fun _ c => s.size - (intOf c).toNat)
  case atStart => exact ⟨0, Nat.zero_le _, rfl, rfl⟩
  case round =>
    obtain ⟨k, hk, rfl, rfl⟩ := hrel
    by_cases hlt : k < s.size
    · have hi1 : (k : Int) < (s.size : Int) := by omega
      have hi0 : (0 : Int) ≤ (k : Int) := by omega
      have hb := byteAt_eq s k hlt
      cases hl : letC (byteAt s k)
      · have HN : Hid (inTo s (k + 1) = inTo s k) := by unfold Hid; simp only [inTo]; rw [if_neg (by rw [hl]; simp)]
        have HC := Lib.hid (fun w => l04Sign_no (byteAt s k) w hl)
        rw [hb] at HC
        clear hb hl
        go_wp2_with (go_at_call 48; (with_reducible refine (HC.out _).mono ?_); rintro e w' ⟨rfl, rfl⟩)
        exact ⟨⟨k + 1, by omega, by go_num, by rw [HN.out]⟩, by simp [intOf]; omega⟩
      · have HN : Hid (inTo s (k + 1) = max (inTo s k) (inpC (byteAt s k) + 1)) := by unfold Hid; simp only [inTo]; rw [if_pos hl]
        have HC := Lib.hid (fun w => l04Sign_yes (byteAt s k) w hl rfl rfl)
        have hbd := (letC_bd hl).2.2
        have hbi := inTo_bd s k
        rw [hb] at HC hbd HN
        generalize inpC (s[k].toNat : Int) = ip at HC hbd HN
        generalize kndC (s[k].toNat : Int) = kp at HC
        clear hb hl
        generalize inTo s k = m at *
        obtain ⟨i1, i2⟩ := hbd
        obtain ⟨m1, m2⟩ := hbi
        by_cases hm : m < ip + 1
        · have HN2 : Hid (inTo s (k + 1) = ip + 1) := by have := HN.out; unfold Hid; omega
          clear HN
          go_wp2_with (go_at_call 48; (with_reducible refine (HC.out _).mono ?_); rintro e w' ⟨rfl, rfl⟩)
          exact ⟨⟨k + 1, by omega, by go_num, by rw [HN2.out]⟩, by simp [intOf]; omega⟩
        · have HN2 : Hid (inTo s (k + 1) = m) := by have := HN.out; unfold Hid; omega
          clear HN
          go_wp2_with (go_at_call 48; (with_reducible refine (HC.out _).mono ?_); rintro e w' ⟨rfl, rfl⟩)
          exact ⟨⟨k + 1, by omega, by go_num, by rw [HN2.out]⟩, by simp [intOf]; omega⟩
    · have e : k = s.size := by omega
      subst e
      go_wp2_with fail
      go_ret
      exact ⟨rfl, rfl⟩

end Go.Proofs.Ytohmhiodmaahfaa
