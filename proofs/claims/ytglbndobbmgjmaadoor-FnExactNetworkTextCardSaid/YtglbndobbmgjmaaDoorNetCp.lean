/- Networks copied, weighed, compared. -/
import Derived.Test.YtglbndobbmgjmaaDoorOwn2
import Derived.Deep.RegionWith
namespace Go.Proofs.YtglbndobbmgjmaaDoor
open Go.RowKit
set_option linter.unusedVariables false

theorem szNetwork_any (p : Int) (va : Value) (xss : List (List Int)) (left : Int) (w : World) (ha : Reads2 w va xss) (l0 : 0 ≤ left) (l1 : left ≤ 1048576) {z : Int} (hz : szZ2 left xss = z) :
    Calls Tryd.prog 4 #[.agg #[.int .i64 p, va], .int .i64 left] w fun e w' => e = .returned (.int .i64 z) ∧ Below w.heap.size w w' := by
  have HR := Lib.hid (ha.keep ((Below.refl _ _).alloc (Nat.le_refl _) (.cells #[.int .i64 p, va] 24)))
  have hz2 : z = -1 ∨ 0 ≤ z := by
    by_cases h : szZ2 left xss = -1
    · left; omega
    · right; have := szZ2_pos h; omega
  have HZ : Hid (∀ w', Reads2 w' va xss → Calls Tryd.prog 9 #[va, .int .i64 left] w' fun e w'' => e = .returned (.int .i64 z) ∧ w' = w'') := fun w' h => hz ▸ szInt64SS_any va xss left w' h l0 l1
  obtain ⟨a, ca, rfl, hm, _⟩ := ha
  clear hz
  generalize xss.length = n at *
  rcases hz2 with h | h
  · subst h
    go_enter Tryd.func4, Tryd.ntmps4
    go_wp2_with (go_at_call 9; (with_reducible refine (HZ.out _ HR.out).mono ?_); rintro e w' ⟨rfl, rfl⟩)
    go_ret
    exact ⟨rfl, by go_grown⟩
  · have h' : ¬ z < 0 := by omega
    go_enter Tryd.func4, Tryd.ntmps4
    go_wp2_with (go_at_call 9; (with_reducible refine (HZ.out _ HR.out).mono ?_); rintro e w' ⟨rfl, rfl⟩)
    go_ret
    exact ⟨rfl, by go_grown⟩

set_option maxHeartbeats 1000000 in
theorem toNetwork_any (p : Int) (va : Value) (xss : List (List Int)) (w : World) (ha : Reads2 w va xss) (hn : xss.length ≤ 1048576) (hl : ∀ i, i < xss.length → (xss.getD i []).length ≤ 1048576) :
    Calls Tryd.prog 6 #[.agg #[.int .i64 p, va]] w fun e w' => ∃ a cap, e = .returned (.agg #[.int .i64 p, .slice a xss.length cap]) ∧ Own2 w' w.heap.size w'.heap.size (.slice a xss.length cap) xss ∧ Below w.heap.size w w' := by
  have HA := Lib.hid ha
  have HL := Lib.hid hl
  have HM : Hid (xss.length = xss.length) := rfl
  obtain ⟨a, ca, rfl, hm, _⟩ := ha
  clear hl
  generalize hnn : xss.length = n at *
  have HN := Lib.hid hnn
  clear hnn HM
  have k0 : C2 (((w.alloc (.cells #[.int .i64 p, .slice a n ca] 24)).alloc (.cells #[.int .i64 0, .slice none 0 0] 28)).alloc (.cells #[.int .i64 p, .slice none 0 0] 28)) w.heap.size (.int .i64 p) (.slice a n ca) := ((C2.here w _ _ _).alloc _).alloc _
  have k1 : C2 (((w.alloc (.cells #[.int .i64 p, .slice a n ca] 24)).alloc (.cells #[.int .i64 0, .slice none 0 0] 28)).alloc (.cells #[.int .i64 p, .slice none 0 0] 28)) (w.heap.size + 1) (.int .i64 0) (.slice none 0 0) := by simpa using (C2.here (w.alloc (.cells #[.int .i64 p, .slice a n ca] 24)) (.int .i64 0) (.slice none 0 0) 28).alloc (.cells #[.int .i64 p, .slice none 0 0] 28)
  have k2 : C2 (((w.alloc (.cells #[.int .i64 p, .slice a n ca] 24)).alloc (.cells #[.int .i64 0, .slice none 0 0] 28)).alloc (.cells #[.int .i64 p, .slice none 0 0] 28)) (w.heap.size + 1 + 1) (.int .i64 p) (.slice none 0 0) := by simpa using C2.here ((w.alloc (.cells #[.int .i64 p, .slice a n ca] 24)).alloc (.cells #[.int .i64 0, .slice none 0 0] 28)) (.int .i64 p) (.slice none 0 0) 28
  go_enter Tryd.func6, Tryd.ntmps6
  go_wp2_with fail
  refine (toInt64SS_any _ xss _ (HA.out.keep (by go_grown)) (by rw [HN.out]; exact hn) (by rw [HN.out]; exact HL.out)).mono ?_
  rintro e wa ⟨u, rfl, ou, hb⟩
  obtain ⟨ua, uc, rfl, _, _⟩ := ou.reads
  rw [HN.out] at *
  replace k0 := keepAt hb k0
  replace k1 := keepAt hb k1
  replace k2 := keepAt hb k2
  have hL := chain (B := w.heap.size) (a := w) (by go_grown) (Nat.le_refl _) hb
  have hzz := hb.size
  simp only [World.size_alloc] at hzz
  have OU : Hid (Own2 wa (w.heap.size + 1 + 1 + 1) wa.heap.size (.slice ua n uc) xss) := ou.mono (by simp) (Nat.le_refl _)
  clear hb ou
  go_wp2_with fail
  refine bodyPost_ret (v := .agg #[.int .i64 p, .slice ua n uc]) (by simp [results, Tryd.results6, go_sem, *]) rfl ?_
  refine ⟨ua, uc, rfl, ?_, by go_grown⟩
  refine Own2.mono (Own2.same OU.out fun k hk _ _ => ?_) (by omega) (by simp)
  repeat rw [Below.heap_setCell _ _ _ k (by dsimp only; omega)]

set_option maxHeartbeats 1000000 in
theorem eqNetwork_same (p : Int) (va vb : Value) (xss : List (List Int)) (w : World) (ha : Reads2 w va xss) (hb : Reads2 w vb xss) :
    Calls Tryd.prog 8 #[.agg #[.int .i64 p, va], .agg #[.int .i64 p, vb]] w fun e w' => e = .returned (.bool true) ∧ Below w.heap.size w w' := by
  have HA := Lib.hid (ha.keep (((Below.refl _ _).alloc (Nat.le_refl _) (.cells #[.int .i64 p, va] 28)).alloc (by simp) (.cells #[.int .i64 p, vb] 28)))
  have HB := Lib.hid (hb.keep (((Below.refl _ _).alloc (Nat.le_refl _) (.cells #[.int .i64 p, va] 28)).alloc (by simp) (.cells #[.int .i64 p, vb] 28)))
  obtain ⟨a, ca, rfl, _, _⟩ := ha
  obtain ⟨b, cb, rfl, _, _⟩ := hb
  go_enter Tryd.func8, Tryd.ntmps8
  go_wp2_with (go_at_call 17; (with_reducible refine (eqInt64SS_same _ _ xss _ HA.out HB.out).mono ?_); rintro e w' ⟨rfl, hb⟩; have hL := chain (B := w.heap.size) (a := w) (by go_grown) (Nat.le_refl _) hb; clear hb)
  go_ret
  exact ⟨rfl, hL⟩

end Go.Proofs.YtglbndobbmgjmaaDoor
