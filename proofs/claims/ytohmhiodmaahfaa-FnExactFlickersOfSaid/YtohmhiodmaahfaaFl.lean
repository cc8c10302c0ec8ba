/- FlickersOf, IsSafe: both contracts. -/
import Derived.Test.YtohmhiodmaahfaaFlsI
import Derived.Test.YtohmhiodmaahfaaFlsS
import Derived.Test.YtohmhiodmaahfaaSafM
import Derived.Test.YtohmhiodmaahfaaTvI
namespace Go.Proofs.Ytohmhiodmaahfaa
open Go.RowKit
set_option linter.unusedVariables false

/-- what FlickersOf gives -/
def flo (s : ByteArray) (n : Int) : List (List Int) × Int := match fmOf s with
  | none => ([], 6)
  | some t => if inTo s s.size ≤ n ∧ n ≤ 5 then (flTo t n.toNat (2 ^ n.toNat), 0) else ([], 2)
theorem flo_none {s : ByteArray} (h : fmOf s = none) (n : Int) : flo s n = ([], 6) := by unfold flo; rw [h]
theorem flo_out {s : ByteArray} {t : Fm} (h : fmOf s = some t) {n : Int} (hn : ¬ (inTo s s.size ≤ n ∧ n ≤ 5)) : flo s n = ([], 2) := by unfold flo; rw [h]; exact if_neg hn
theorem flo_in {s : ByteArray} {t : Fm} (h : fmOf s = some t) {n : Int} (hn : inTo s s.size ≤ n ∧ n ≤ 5) : flo s n = (flTo t n.toNat (2 ^ n.toNat), 0) := by unfold flo; rw [h]; exact if_pos hn
def resFlickersOf_0 (s : ByteArray) (n : Int) : List (List Int) := (flo s n).1
def resFlickersOf_1 (s : ByteArray) (n : Int) : Int := (flo s n).2
theorem lenFlickersOf_0 (s : ByteArray) (n : Int) : (resFlickersOf_0 s n).length ≤ 100000 ∧ (resFlickersOf_0 s n).length + sumLen (resFlickersOf_0 s n) (resFlickersOf_0 s n).length ≤ 1000000 ∧ ∀ i, i < (resFlickersOf_0 s n).length → ((resFlickersOf_0 s n).getD i []).length ≤ 1048576 := by
  unfold resFlickersOf_0
  cases h : fmOf s with
  | none => rw [flo_none h]; exact short (c := 0) (fun r hr => by cases hr) (by decide) (by simp)
  | some t =>
    by_cases hn : inTo s s.size ≤ n ∧ n ≤ 5
    · rw [flo_in h hn]
      have := inTo_bd s s.size
      refine flTo_short t _ _ (by omega) ?_
      exact Nat.pow_le_pow_right (n := 2) (by decide) (show n.toNat ≤ 5 by omega)
    · rw [flo_out h hn]; exact short (c := 0) (fun r hr => by cases hr) (by decide) (by simp)
/-- what IsSafe gives -/
def saf (s : ByteArray) : Bool × Int := match fmOf s with
  | none => (false, 6)
  | some t => (decide ((flTo t 5 32).length = 0), 0)
theorem saf_none {s : ByteArray} (h : fmOf s = none) : saf s = (false, 6) := by unfold saf; rw [h]
theorem saf_some {s : ByteArray} {t : Fm} (h : fmOf s = some t) : saf s = (decide ((flTo t 5 32).length = 0), 0) := by unfold saf; rw [h]
def resIsSafe_0 (s : ByteArray) : Bool := (saf s).1
def resIsSafe_1 (s : ByteArray) : Int := (saf s).2

set_option maxRecDepth 100000 in
set_option maxHeartbeats 2000000 in
theorem iFlickersOf_any (s : ByteArray) (hs : s.size ≤ 1048576) (n : Int) (w : World) :
    Calls Try.prog 14 #[.string s, .int .i64 n] w fun e w' => ∃ u, e = .returned (.tuple #[u, .int .i64 (resFlickersOf_1 s n)]) ∧ Own2 w' w.heap.size w'.heap.size u (resFlickersOf_0 s n) ∧ Below w.heap.size w w' := by
  unfold resFlickersOf_0 resFlickersOf_1
  cases hR : fmOf s with
  | none =>
    rw [flo_none hR]
    have HC := Lib.hid (fun w => readFormula_any s w hR)
    clear hR
    go_enter Try.func14, Try.ntmps14
    go_wp2_with (go_at_call 33; (with_reducible refine (HC.out _).mono ?_); rintro e w1 ⟨c, a0, n0, cap0, b, rfl, rfl, hh, hL⟩; clear hh; have hz := hL.size)
    go_ret2
    exact ⟨.slice none 0 0, rfl, own2Nil _ _ _, by go_grown⟩
  | some t =>
    obtain ⟨hw, hst, h80⟩ := fm_some hR
    have HC := Lib.hid (fun w => readFormula_any s w hR)
    rcases inputs_cases s n with ⟨hm, hn5, hn1, hb⟩ | ⟨hm, hn⟩ | ⟨hm, hn1, hn5, hb⟩
    · rw [flo_in hR ⟨hm, hn5⟩]
      have HI := Lib.hid (fun w => hasInputsBelow_any s n w hs hb)
      have HF := Lib.hid (fun (w : World) (B : Nat) (va : Option Addr) (vc : Nat) (bs : List Nat) (hh : Hold w B (.slice va t.members.length vc) t.members bs) => flickersOf_any n w hw (by omega) hh hn1 hn5)
      clear hR hb hm hw hst h80
      go_enter Try.func14, Try.ntmps14
      go_wp2_with fail
      refine (HC.out _).mono ?_
      rintro e w1 ⟨c, a0, n0, cap0, b, rfl, rfl, hh, hL⟩
      obtain ⟨rfl, rfl, bt, hh⟩ := hh t rfl
      have HH := Lib.hid (fun wx (h : Below w1.heap.size w1 wx) => hh.keep h)
      have hz := hL.size
      clear hh
      have kf := C2.here w1 (.int .u8 t.sign) (.slice a0 t.members.length cap0) 46
      have hLf : Below w1.heap.size w1 (w1.alloc (.cells #[.int .u8 t.sign, .slice a0 t.members.length cap0] 46)) := by go_grown
      go_wp2_with (first | (go_at_call 34; (with_reducible refine (isInputCount_yes _ _ hn1 hn5).mono ?_); rintro e w' ⟨rfl, rfl⟩) | (go_at_call 35; (with_reducible refine (HI.out _).mono ?_); rintro e w2 ⟨rfl, hb⟩; have hL2 := chain (B := w.heap.size) (a := w) (hL.alloc hz (.cells #[.int .u8 t.sign, .slice a0 t.members.length cap0] 46)) (Nat.le_refl _) hb; replace kf := keepAt hb kf; replace hLf := chain (B := w1.heap.size) (a := w1) hLf (Nat.le_refl _) hb; clear hb))
      refine (HF.out _ _ _ _ bt (HH.out _ hLf)).mono ?_
      rintro e w3 ⟨sa, sc, rfl, ho, hb⟩
      have hL3 := chain (B := w.heap.size) (a := w) hL2 (Nat.le_refl _) hb
      have hz2 := hL2.size
      go_wp2_with fail
      go_ret2
      exact ⟨_, rfl, ho.mono hz2 (Nat.le_refl _), hL3⟩
    · rw [flo_out hR hm]
      clear hR hm hw hst h80
      go_enter Try.func14, Try.ntmps14
      go_wp2_with (first | (go_at_call 33; (with_reducible refine (HC.out _).mono ?_); rintro e w1 ⟨c, a0, n0, cap0, b, rfl, rfl, hh, hL⟩; clear hh; have hz := hL.size) | (go_at_call 34; (with_reducible refine (isInputCount_no _ _ hn).mono ?_); rintro e w' ⟨rfl, rfl⟩))
      go_ret2
      exact ⟨.slice none 0 0, rfl, own2Nil _ _ _, by go_grown⟩
    · rw [flo_out hR hm]
      have HI := Lib.hid (fun w => hasInputsBelow_any s n w hs hb)
      clear hR hm hw hst h80 hb
      go_enter Try.func14, Try.ntmps14
      go_wp2_with (first | (go_at_call 33; (with_reducible refine (HC.out _).mono ?_); rintro e w1 ⟨c, a0, n0, cap0, b, rfl, rfl, hh, hL⟩; clear hh; have hz := hL.size) | (go_at_call 34; (with_reducible refine (isInputCount_yes _ _ hn1 hn5).mono ?_); rintro e w' ⟨rfl, rfl⟩) | (go_at_call 35; (with_reducible refine (HI.out _).mono ?_); rintro e w2 ⟨rfl, hb⟩; have hL2 := chain (B := w.heap.size) (a := w) (hL.alloc hz _) (Nat.le_refl _) hb; clear hb))
      go_ret2
      exact ⟨.slice none 0 0, rfl, own2Nil _ _ _, hL2⟩

set_option maxRecDepth 100000 in
set_option maxHeartbeats 2000000 in
theorem sFlickersOf_any (s : ByteArray) (hs : s.size ≤ 1048576) (n : Int) (w : World) :
    Calls Try.prog 13 #[.string s, .int .i64 n] w fun e w' => ∃ u, e = .returned (.tuple #[u, .int .i64 (resFlickersOf_1 s n)]) ∧ Reads2 w' u (resFlickersOf_0 s n) ∧ Below w.heap.size w w' := by
  unfold resFlickersOf_0 resFlickersOf_1
  cases hR : fmOf s with
  | none =>
    rw [flo_none hR]
    have HI := Lib.hid (fun w => l04Is_any s w hs (b := false) (by rw [hR]; rfl))
    clear hR
    go_enter Try.func13, Try.ntmps13
    go_wp2_with (go_at_call 29; (with_reducible refine (HI.out _).mono ?_); rintro e w' ⟨rfl, rfl⟩)
    go_ret2
    exact ⟨.slice none 0 0, rfl, (own2Nil _ 0 0).reads, Below.refl _ _⟩
  | some t =>
    obtain ⟨hw, hst, h80⟩ := fm_some hR
    have HI := Lib.hid (fun w => l04Is_any s w hs (b := true) (by rw [hR]; rfl))
    have HN := Lib.hid (fun w => l04Inputs_any s w hs)
    have hbi := inTo_bd s s.size
    by_cases hn : inTo s s.size ≤ n ∧ n ≤ 5
    · rw [flo_in hR hn]
      have HX := Lib.hid hn
      have HF := Lib.hid (fun w => l08Flickers_any (t := t) n w hw (by omega) (by omega) hn.2)
      rw [← hst] at HF
      clear hR hn hw hst h80
      generalize inTo s s.size = m at *
      go_enter Try.func13, Try.ntmps13
      go_wp2_with (first | (go_at_call 29; (with_reducible refine (HI.out _).mono ?_); rintro e w' ⟨rfl, rfl⟩) | (go_at_call 31; (with_reducible refine (HN.out _).mono ?_); rintro e w' ⟨rfl, rfl⟩) | (go_at_call 30; (with_reducible refine (l01In_yes _ _ _ _ HX.out).mono ?_); rintro e w' ⟨rfl, rfl⟩))
      refine (HF.out _).mono ?_
      rintro e w3 ⟨sa, sc, rfl, ho, hb⟩
      go_wp2_with fail
      go_ret2
      exact ⟨_, rfl, ho.reads, hb⟩
    · rw [flo_out hR hn]
      have HX := Lib.hid hn
      clear hR hn hw hst h80
      generalize inTo s s.size = m at *
      go_enter Try.func13, Try.ntmps13
      go_wp2_with (first | (go_at_call 29; (with_reducible refine (HI.out _).mono ?_); rintro e w' ⟨rfl, rfl⟩) | (go_at_call 31; (with_reducible refine (HN.out _).mono ?_); rintro e w' ⟨rfl, rfl⟩) | (go_at_call 30; (with_reducible refine (l01In_no _ _ _ _ HX.out).mono ?_); rintro e w' ⟨rfl, rfl⟩))
      go_ret2
      exact ⟨.slice none 0 0, rfl, (own2Nil _ 0 0).reads, Below.refl _ _⟩

set_option maxRecDepth 100000 in
set_option maxHeartbeats 2000000 in
theorem iIsSafe_any (s : ByteArray) (hs : s.size ≤ 1048576) (w : World) :
    Calls Try.prog 19 #[.string s] w fun e w' => e = .returned (.tuple #[.bool (resIsSafe_0 s), .int .i64 (resIsSafe_1 s)]) ∧ Below w.heap.size w w' := by
  unfold resIsSafe_0 resIsSafe_1
  cases hR : fmOf s with
  | none =>
    rw [saf_none hR]
    have HC := Lib.hid (fun w => readFormula_any s w hR)
    clear hR
    go_enter Try.func19, Try.ntmps19
    go_wp2_with (go_at_call 33; (with_reducible refine (HC.out _).mono ?_); rintro e w1 ⟨c, a0, n0, cap0, b, rfl, rfl, hh, hL⟩; clear hh; have hz := hL.size)
    go_ret2
    exact ⟨rfl, by go_grown⟩
  | some t =>
    rw [saf_some hR]
    obtain ⟨hw, hst, h80⟩ := fm_some hR
    have HC := Lib.hid (fun w => readFormula_any s w hR)
    have HF := Lib.hid (fun (w : World) (B : Nat) (va : Option Addr) (vc : Nat) (bs : List Nat) (hh : Hold w B (.slice va t.members.length vc) t.members bs) => flickersOf_any 5 w hw (by omega) hh (by decide) (by decide))
    have HE : Hid (2 ^ (5 : Int).toNat = 32 ∧ (5 : Int).toNat = 5) := ⟨rfl, rfl⟩
    have hq := (flTo_short t 5 32 (by decide) (by decide)).1
    have HQ : Hid (((((flTo t 5 32).length : Nat) : Int) == 0) = decide ((flTo t 5 32).length = 0)) := by
      unfold Hid; rw [Bool.eq_iff_iff, beq_iff_eq, decide_eq_true_iff]; omega
    clear hR hw hst h80
    go_enter Try.func19, Try.ntmps19
    go_wp2_with fail
    refine (HC.out _).mono ?_
    rintro e w1 ⟨c, a0, n0, cap0, b, rfl, rfl, hh, hL⟩
    obtain ⟨rfl, rfl, bt, hh⟩ := hh t rfl
    have HH := Lib.hid (fun wx (h : Below w1.heap.size w1 wx) => hh.keep h)
    have hz := hL.size
    clear hh
    go_wp2_with fail
    refine (HF.out _ _ _ _ bt (HH.out _ (by go_grown))).mono ?_
    rintro e w3 ⟨sa, sc, rfl, ho, hb⟩
    have hL3 := chain (B := w.heap.size) (a := w) (hL.alloc hz _) (Nat.le_refl _) hb
    rw [HE.out.1, HE.out.2]
    clear ho hb
    obtain ⟨q, hqe⟩ : ∃ q, (flTo t 5 32).length = q := ⟨_, rfl⟩
    rw [hqe] at hq
    rw [hqe]
    have HE2 := Lib.hid hqe
    clear hqe
    have hq63 : q ≤ 9223372036854775807 := by omega
    go_wp2_with fail
    go_ret2
    exact ⟨by rw [← HQ.out, HE2.out]; rfl, hL3⟩

set_option maxRecDepth 100000 in
set_option maxHeartbeats 2000000 in
theorem sIsSafe_any (s : ByteArray) (hs : s.size ≤ 1048576) (w : World) :
    Calls Try.prog 18 #[.string s] w fun e w' => e = .returned (.tuple #[.bool (resIsSafe_0 s), .int .i64 (resIsSafe_1 s)]) ∧ Below w.heap.size w w' := by
  unfold resIsSafe_0 resIsSafe_1
  cases hR : fmOf s with
  | none =>
    rw [saf_none hR]
    have HI := Lib.hid (fun w => l04Is_any s w hs (b := false) (by rw [hR]; rfl))
    clear hR
    go_enter Try.func18, Try.ntmps18
    go_wp2_with (go_at_call 29; (with_reducible refine (HI.out _).mono ?_); rintro e w' ⟨rfl, rfl⟩)
    go_ret2
    exact ⟨rfl, Below.refl _ _⟩
  | some t =>
    rw [saf_some hR]
    obtain ⟨hw, hst, h80⟩ := fm_some hR
    have HI := Lib.hid (fun w => l04Is_any s w hs (b := true) (by rw [hR]; rfl))
    have hbi := inTo_bd s s.size
    obtain ⟨m, hm⟩ : ∃ m : Nat, inTo s s.size = (m : Int) := ⟨(inTo s s.size).toNat, by omega⟩
    have HN : Hid (∀ w, Calls Try.prog 31 #[.string s] w fun e w' => e = .returned (.int .i64 (m : Int)) ∧ w = w') := fun w => by
      have := l04Inputs_any s w hs
      rw [hm] at this
      exact this
    have HF := Lib.hid (fun w => l08Flickers_any (t := t) (m : Int) w hw (by omega) (by omega) (by omega))
    rw [← hst] at HF
    have HS : Hid (decide ((flTo t 5 32).length = 0) = decide ((flTo t m (2 ^ m)).length = 0)) := safe_same hw (by rw [← hst]; exact hm)
    have hq : (flTo t m (2 ^ m)).length ≤ 100000 := (flTo_short t m (2 ^ m) (by omega) (Nat.pow_le_pow_right (n := 2) (by decide) (show m ≤ 5 by omega))).1
    have HQ : Hid (((((flTo t m (2 ^ m)).length : Nat) : Int) == 0) = decide ((flTo t m (2 ^ m)).length = 0)) := by
      unfold Hid; rw [Bool.eq_iff_iff, beq_iff_eq, decide_eq_true_iff]; omega
    have HT : Hid ((m : Int).toNat = m) := Int.toNat_natCast m
    clear hR hw hst h80 hm
    go_enter Try.func18, Try.ntmps18
    go_wp2_with (first | (go_at_call 29; (with_reducible refine (HI.out _).mono ?_); rintro e w' ⟨rfl, rfl⟩) | (go_at_call 31; (with_reducible refine (HN.out _).mono ?_); rintro e w' ⟨rfl, rfl⟩))
    refine (HF.out _).mono ?_
    rintro e w3 ⟨sa, sc, rfl, ho, hb⟩
    rw [HT.out]
    clear ho
    obtain ⟨q, hqe⟩ : ∃ q, (flTo t m (2 ^ m)).length = q := ⟨_, rfl⟩
    rw [hqe] at hq
    rw [hqe]
    have HE2 := Lib.hid hqe
    clear hqe
    have hq63 : q ≤ 9223372036854775807 := by omega
    go_wp2_with fail
    go_ret2
    exact ⟨by rw [HS.out, ← HQ.out, HE2.out]; rfl, hb⟩

end Go.Proofs.Ytohmhiodmaahfaa
