/- ValueInGap, ValueInBridge: both contracts. -/
import Derived.Test.YtohmhiodmaahfaaMoS
import Derived.Test.YtohmhiodmaahfaaGapI
import Derived.Test.YtohmhiodmaahfaaFv
import Derived.Shelf.Abstract
namespace Go.Proofs.Ytohmhiodmaahfaa
open Go.RowKit
set_option linter.unusedVariables false

/-- the value in a moment, and the error -/
def resMo (cl : Bool) (s : ByteArray) (x y : Int) : Int × Int := match fmOf s with
  | none => (0, 6)
  | some t => if (0 ≤ x ∧ x ≤ 31) ∧ (0 ≤ y ∧ y ≤ 4) then (b2i (valF (momV x y cl) t), 0) else (0, 2)
theorem mo_none (cl : Bool) {s : ByteArray} (h : fmOf s = none) (x y : Int) : resMo cl s x y = (0, 6) := by unfold resMo; rw [h]
theorem mo_out (cl : Bool) {s : ByteArray} {t : Fm} (h : fmOf s = some t) {x y : Int} (hx : ¬ ((0 ≤ x ∧ x ≤ 31) ∧ (0 ≤ y ∧ y ≤ 4))) : resMo cl s x y = (0, 2) := by unfold resMo; rw [h]; exact if_neg hx
theorem mo_in (cl : Bool) {s : ByteArray} {t : Fm} (h : fmOf s = some t) {x y : Int} (hx : (0 ≤ x ∧ x ≤ 31) ∧ (0 ≤ y ∧ y ≤ 4)) : resMo cl s x y = (b2i (valF (momV x y cl) t), 0) := by unfold resMo; rw [h]; exact if_pos hx
def resValueInGap_0 (s : ByteArray) (x y : Int) : Int := (resMo false s x y).1
def resValueInGap_1 (s : ByteArray) (x y : Int) : Int := (resMo false s x y).2
def resValueInBridge_0 (s : ByteArray) (x y : Int) : Int := (resMo true s x y).1
def resValueInBridge_1 (s : ByteArray) (x y : Int) : Int := (resMo true s x y).2

theorem inGapM (row input : Int) (h0 : 0 ≤ row) (h1 : row ≤ 31) (i0 : 0 ≤ input) (i1 : input < 5) {t : Fm} {B : Nat} {va : Option Addr} {vc : Nat} {bs : List Nat} (w : World) (hw : wfF t) (hz : (txtF t).length ≤ 1048576) (hh : Hold w B (.slice va t.members.length vc) t.members bs) :
    Calls Try.prog 27 #[.agg #[.int .u8 t.sign, .slice va t.members.length vc, .int .i64 (lowR row input), .int .i64 (highR row input)]] w fun e w' => e = .returned (.int .i64 (b2i (valF (momV row input false) t))) ∧ Below w.heap.size w w' := by
  have hb := lowR_bd h0 h1 i0 i1
  rw [← (gap_val h0 h1 i0 i1 hw).1]
  exact inGap_any _ _ hb.1 hb.2.1 hb.2.2.1 hb.2.2.2 w hw hz hh
theorem inBridgeM (row input : Int) (h0 : 0 ≤ row) (h1 : row ≤ 31) (i0 : 0 ≤ input) (i1 : input < 5) {t : Fm} {B : Nat} {va : Option Addr} {vc : Nat} {bs : List Nat} (w : World) (hw : wfF t) (hz : (txtF t).length ≤ 1048576) (hh : Hold w B (.slice va t.members.length vc) t.members bs) :
    Calls Try.prog 28 #[.agg #[.int .u8 t.sign, .slice va t.members.length vc, .int .i64 (lowR row input), .int .i64 (highR row input)]] w fun e w' => e = .returned (.int .i64 (b2i (valF (momV row input true) t))) ∧ Below w.heap.size w w' := by
  have hb := lowR_bd h0 h1 i0 i1
  rw [← (gap_val h0 h1 i0 i1 hw).2]
  exact inBridge_any _ _ hb.1 hb.2.1 hb.2.2.1 hb.2.2.2 w hw hz hh

set_option maxRecDepth 100000 in
set_option maxHeartbeats 1000000 in
theorem valueInMoment_any (F : Nat) (cl : Bool) (hE : ∀ (args : Array Value) (w : World), (callFunc F args).run Try.prog w = .ok (.enter F args) w)
    (hF : ∀ (row input : Int), 0 ≤ row → row ≤ 31 → 0 ≤ input → input < 5 → ∀ {t : Fm} {B : Nat} {va : Option Addr} {vc : Nat} {bs : List Nat} (w : World), wfF t → (txtF t).length ≤ 1048576 → Hold w B (.slice va t.members.length vc) t.members bs →
      Calls Try.prog F #[.agg #[.int .u8 t.sign, .slice va t.members.length vc, .int .i64 (lowR row input), .int .i64 (highR row input)]] w fun e w' => e = .returned (.int .i64 (b2i (valF (momV row input cl) t))) ∧ Below w.heap.size w w')
    (s : ByteArray) (x y : Int) (w : World) :
    Calls Try.prog 26 #[.string s, .int .i64 x, .int .i64 y, .func (.func F) #[] #[]] w fun e w' => e = .returned (.tuple #[.int .i64 (resMo cl s x y).1, .int .i64 (resMo cl s x y).2]) ∧ Below w.heap.size w w' := by
  cases hR : fmOf s with
  | none =>
    rw [mo_none cl hR]
    have HC := Lib.hid (fun w => readFormula_any s w hR)
    clear hR hF
    go_enter Try.func26, Try.ntmps26
    go_wp2_with (go_at_call 33; (with_reducible refine (HC.out _).mono ?_); rintro e w1 ⟨c, a0, n0, cap0, b, rfl, rfl, hh, hL⟩; clear hh; have hz := hL.size)
    go_ret2
    exact ⟨rfl, by go_grown⟩
  | some t =>
    obtain ⟨hw, rfl, h80⟩ := fm_some hR
    have HC := Lib.hid (fun w => readFormula_any (txtS t) w hR)
    by_cases hx : (0 ≤ x ∧ x ≤ 31) ∧ (0 ≤ y ∧ y ≤ 4)
    · rw [mo_in cl hR hx]
      have HX : Hid (0 ≤ x ∧ x < 32) := ⟨hx.1.1, by omega⟩
      have HY : Hid (0 ≤ y ∧ y < 5) := ⟨hx.2.1, by omega⟩
      have HI := Lib.hid (fun (va : Option Addr) (n vc : Nat) (w : World) => changeIn_any t.sign va n vc (row := x) (input := y) w hx.1.1 hx.1.2 HY.out.1 HY.out.2)
      have HF := Lib.hid (fun (w : World) (B : Nat) (va : Option Addr) (vc : Nat) (bs : List Nat) (hh : Hold w B (.slice va t.members.length vc) t.members bs) => hF x y hx.1.1 hx.1.2 HY.out.1 HY.out.2 w hw (by omega) hh)
      clear hR hx hF
      go_enter Try.func26, Try.ntmps26
      go_wp2_with fail
      refine (HC.out _).mono ?_
      rintro e w1 ⟨c, a0, n0, cap0, b, rfl, rfl, hh, hL⟩
      obtain ⟨rfl, rfl, bt, hh⟩ := hh t rfl
      have HH := Lib.hid (fun wx (h : Below w1.heap.size w1 wx) => hh.keep h)
      have hz := hL.size
      clear hh
      go_wp2_with (first | (go_at_call 42; (with_reducible refine (rowCount5 _).mono ?_); rintro e w' ⟨rfl, rfl⟩) | (go_at_call 41; (with_reducible refine (isBelow_yes _ _ _ HX.out).mono ?_); rintro e w' ⟨rfl, rfl⟩) | (go_at_call 41; (with_reducible refine (isBelow_yes _ _ _ HY.out).mono ?_); rintro e w' ⟨rfl, rfl⟩) | (go_at_call 46; (with_reducible refine (HI.out _ _ _ _).mono ?_); rintro e w2 ⟨rfl, hb⟩; have hL2 := chain (B := w1.heap.size) (a := w1) (by go_grown) (Nat.le_refl _) hb; have hL := chain (B := w.heap.size) (a := w) (by go_grown) (Nat.le_refl _) hb) | ((with_reducible refine (HF.out _ _ _ _ bt (HH.out _ (by go_grown))).mono ?_); rintro e w3 ⟨rfl, hb⟩; have hL := chain (B := w.heap.size) (a := w) (by go_grown) (Nat.le_refl _) hb))
      go_ret2
      exact ⟨rfl, hL⟩
    · rw [mo_out cl hR hx]
      clear hF
      go_enter Try.func26, Try.ntmps26
      go_wp2_with fail
      refine (HC.out _).mono ?_
      rintro e w1 ⟨c, a0, n0, cap0, b, rfl, rfl, hh, hL⟩
      obtain ⟨rfl, rfl, bt, hh⟩ := hh t rfl
      have hz := hL.size
      clear hh
      by_cases h1 : 0 ≤ x ∧ x < 32
      · have HX := Lib.hid h1
        have HY : Hid (¬ (0 ≤ y ∧ y < 5)) := fun h => hx ⟨⟨h1.1, by omega⟩, ⟨h.1, by omega⟩⟩
        clear h1 hx
        go_wp2_with (first | (go_at_call 42; (with_reducible refine (rowCount5 _).mono ?_); rintro e w' ⟨rfl, rfl⟩) | (go_at_call 41; (with_reducible refine (isBelow_yes _ _ _ HX.out).mono ?_); rintro e w' ⟨rfl, rfl⟩) | (go_at_call 41; (with_reducible refine (isBelow_no _ _ _ HY.out).mono ?_); rintro e w' ⟨rfl, rfl⟩))
        go_ret2
        exact ⟨rfl, by go_grown⟩
      · have HX := Lib.hid h1
        clear h1 hx
        go_wp2_with (first | (go_at_call 42; (with_reducible refine (rowCount5 _).mono ?_); rintro e w' ⟨rfl, rfl⟩) | (go_at_call 41; (with_reducible refine (isBelow_no _ _ _ HX.out).mono ?_); rintro e w' ⟨rfl, rfl⟩))
        go_ret2
        exact ⟨rfl, by go_grown⟩

set_option maxRecDepth 100000 in
set_option maxHeartbeats 1000000 in
theorem l08Value_any (cl : Bool) (s : ByteArray) (hs : s.size ≤ 1048576) (x y : Int) (w : World) :
    Calls Try.prog 25 #[.string s, .int .i64 x, .int .i64 y, .bool cl] w fun e w' => e = .returned (.tuple #[.int .i64 (resMo cl s x y).1, .int .i64 (resMo cl s x y).2]) ∧ Below w.heap.size w w' := by
  cases hR : fmOf s with
  | none =>
    rw [mo_none cl hR]
    have HI := Lib.hid (fun w => l04Is_any s w hs (b := false) (by rw [hR]; rfl))
    clear hR
    go_enter Try.func25, Try.ntmps25
    go_wp2_with (go_at_call 29; refine (HI.out _).mono ?_; rintro e w' ⟨rfl, rfl⟩)
    go_ret2
    exact ⟨rfl, Below.refl _ _⟩
  | some t =>
    obtain ⟨hw, rfl, h80⟩ := fm_some hR
    have HI := Lib.hid (fun w => l04Is_any (txtS t) w hs (b := true) (by rw [hR]; rfl))
    by_cases h1 : 0 ≤ x ∧ x ≤ 31
    · have HX := Lib.hid h1
      by_cases h2 : 0 ≤ y ∧ y ≤ 4
      · rw [mo_in cl hR ⟨h1, h2⟩]
        have HY := Lib.hid h2
        have HM := Lib.hid (fun w => l08Moment_any y cl x h1.1 h1.2 (txtF t).length t w hw (Nat.le_refl _) (by omega))
        clear hR h1 h2 hs hw h80
        cases hv : valF (momV x y cl) t <;> rw [hv] at HM
        · clear hv
          go_enter Try.func25, Try.ntmps25
          go_wp2_with (first | (go_at_call 29; (with_reducible refine (HI.out _).mono ?_); rintro e w' ⟨rfl, rfl⟩) | (go_at_call 30; (with_reducible refine (l01In_yes _ _ _ _ HX.out).mono ?_); rintro e w' ⟨rfl, rfl⟩) | (go_at_call 30; (with_reducible refine (l01In_yes _ _ _ _ HY.out).mono ?_); rintro e w' ⟨rfl, rfl⟩) | (go_at_call 45; (with_reducible refine (HM.out _).mono ?_); rintro e w' ⟨rfl, hL⟩))
          go_ret2
          exact ⟨rfl, hL⟩
        · clear hv
          go_enter Try.func25, Try.ntmps25
          go_wp2_with (first | (go_at_call 29; (with_reducible refine (HI.out _).mono ?_); rintro e w' ⟨rfl, rfl⟩) | (go_at_call 30; (with_reducible refine (l01In_yes _ _ _ _ HX.out).mono ?_); rintro e w' ⟨rfl, rfl⟩) | (go_at_call 30; (with_reducible refine (l01In_yes _ _ _ _ HY.out).mono ?_); rintro e w' ⟨rfl, rfl⟩) | (go_at_call 45; (with_reducible refine (HM.out _).mono ?_); rintro e w' ⟨rfl, hL⟩))
          go_ret2
          exact ⟨rfl, hL⟩
      · rw [mo_out cl hR (fun h => h2 h.2)]
        have HY := Lib.hid h2
        clear hR h1 h2 hs hw h80
        go_enter Try.func25, Try.ntmps25
        go_wp2_with (first | (go_at_call 29; (with_reducible refine (HI.out _).mono ?_); rintro e w' ⟨rfl, rfl⟩) | (go_at_call 30; (with_reducible refine (l01In_yes _ _ _ _ HX.out).mono ?_); rintro e w' ⟨rfl, rfl⟩) | (go_at_call 30; (with_reducible refine (l01In_no _ _ _ _ HY.out).mono ?_); rintro e w' ⟨rfl, rfl⟩))
        go_ret2
        exact ⟨rfl, Below.refl _ _⟩
    · rw [mo_out cl hR (fun h => h1 h.1)]
      have HX := Lib.hid h1
      clear hR h1 hs hw h80
      go_enter Try.func25, Try.ntmps25
      go_wp2_with (first | (go_at_call 29; (with_reducible refine (HI.out _).mono ?_); rintro e w' ⟨rfl, rfl⟩) | (go_at_call 30; (with_reducible refine (l01In_no _ _ _ _ HX.out).mono ?_); rintro e w' ⟨rfl, rfl⟩))
      go_ret2
      exact ⟨rfl, Below.refl _ _⟩

theorem iValueInGap_any (s : ByteArray) (hs : s.size ≤ 1048576) (x y : Int) (w : World) :
    Calls Try.prog 10 #[.string s, .int .i64 x, .int .i64 y] w fun e w' => e = .returned (.tuple #[.int .i64 (resValueInGap_0 s x y), .int .i64 (resValueInGap_1 s x y)]) ∧ Below w.heap.size w w' := by
  have HV := Lib.hid (fun w => valueInMoment_any 27 false (enters_of Try.func27 (by kernel_rfl) rfl) (fun row input h0 h1 i0 i1 => fun w hw hz hh => inGapM row input h0 h1 i0 i1 w hw hz hh) s x y w)
  unfold resValueInGap_0 resValueInGap_1
  go_enter Try.func10, Try.ntmps10
  go_wp2_with (go_at_call 26; (with_reducible refine (HV.out _).mono ?_); rintro e w' ⟨rfl, hL⟩)
  go_ret2
  exact ⟨rfl, hL⟩
theorem sValueInGap_any (s : ByteArray) (hs : s.size ≤ 1048576) (x y : Int) (w : World) :
    Calls Try.prog 9 #[.string s, .int .i64 x, .int .i64 y] w fun e w' => e = .returned (.tuple #[.int .i64 (resValueInGap_0 s x y), .int .i64 (resValueInGap_1 s x y)]) ∧ Below w.heap.size w w' := by
  have HV := Lib.hid (fun w => l08Value_any false s hs x y w)
  unfold resValueInGap_0 resValueInGap_1
  go_enter Try.func9, Try.ntmps9
  go_wp2_with (go_at_call 25; (with_reducible refine (HV.out _).mono ?_); rintro e w' ⟨rfl, hL⟩)
  go_ret2
  exact ⟨rfl, hL⟩
theorem iValueInBridge_any (s : ByteArray) (hs : s.size ≤ 1048576) (x y : Int) (w : World) :
    Calls Try.prog 12 #[.string s, .int .i64 x, .int .i64 y] w fun e w' => e = .returned (.tuple #[.int .i64 (resValueInBridge_0 s x y), .int .i64 (resValueInBridge_1 s x y)]) ∧ Below w.heap.size w w' := by
  have HV := Lib.hid (fun w => valueInMoment_any 28 true (enters_of Try.func28 (by kernel_rfl) rfl) (fun row input h0 h1 i0 i1 => fun w hw hz hh => inBridgeM row input h0 h1 i0 i1 w hw hz hh) s x y w)
  unfold resValueInBridge_0 resValueInBridge_1
  go_enter Try.func12, Try.ntmps12
  go_wp2_with (go_at_call 26; (with_reducible refine (HV.out _).mono ?_); rintro e w' ⟨rfl, hL⟩)
  go_ret2
  exact ⟨rfl, hL⟩
theorem sValueInBridge_any (s : ByteArray) (hs : s.size ≤ 1048576) (x y : Int) (w : World) :
    Calls Try.prog 11 #[.string s, .int .i64 x, .int .i64 y] w fun e w' => e = .returned (.tuple #[.int .i64 (resValueInBridge_0 s x y), .int .i64 (resValueInBridge_1 s x y)]) ∧ Below w.heap.size w w' := by
  have HV := Lib.hid (fun w => l08Value_any true s hs x y w)
  unfold resValueInBridge_0 resValueInBridge_1
  go_enter Try.func11, Try.ntmps11
  go_wp2_with (go_at_call 25; (with_reducible refine (HV.out _).mono ?_); rintro e w' ⟨rfl, hL⟩)
  go_ret2
  exact ⟨rfl, hL⟩

end Go.Proofs.Ytohmhiodmaahfaa
