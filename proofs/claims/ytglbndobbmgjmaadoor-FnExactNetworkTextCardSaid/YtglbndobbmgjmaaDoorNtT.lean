/- NetworkText: the model's, whole. -/
import Derived.Test.YtglbndobbmgjmaaDoorNtS2
import Derived.Test.YtglbndobbmgjmaaDoorNetB
namespace Go.Proofs.YtglbndobbmgjmaaDoor
open Go.RowKit
set_option linter.unusedVariables false

set_option maxRecDepth 100000 in
set_option maxHeartbeats 2000000 in
theorem sNetworkText_any (p : Int) (v : Value) (xss : List (List Int)) (w : World) (ha : Reads2 w v xss) :
    Calls Tryd.prog 5 #[.agg #[.int .i64 p, v]] w fun e w' => e = .returned (.tuple #[.string (resNetworkText_0 p xss), .int .i64 (resNetworkText_1 p xss)]) ∧ Below w.heap.size w w' := by
  have HR := Lib.hid (ha.keep ((Below.refl _ _).alloc (Nat.le_refl _) (.cells #[.int .i64 p, v] 28)))
  obtain ⟨a, ca, rfl, hm, _⟩ := ha
  have k0 := C2.here w (.int .i64 p) (.slice a xss.length ca) 28
  by_cases hN : Net p xss
  · have HNN := Lib.hid hN
    have HN : Hid (decide (Net p xss) = true) := decide_eq_true hN
    have hr := Lib.hid (resNT_yes hN)
    clear hN
    go_enter Tryd.func5, Tryd.ntmps5
    go_wp2_with (first | (go_at_call 10; (with_reducible refine (l02Is_b _ _ xss _ HR.out HN.out).mono ?_); rintro e wn ⟨rfl, hb⟩; have hL := chain (B := w.heap.size) (a := w) (by go_grown) (Nat.le_refl _) hb; replace k0 := keepAt hb k0; replace HR := Lib.hid (reads2At hb HR.out); clear hb) | (go_at_call 11; (with_reducible refine (l02Text_any _ _ xss _ HR.out HNN.out).mono ?_); rintro e w2 ⟨rfl, hb⟩; have hL := chain (B := w.heap.size) (a := w) hL (Nat.le_refl _) hb; clear hb))
    refine bodyPost_ret (v := .tuple #[.string (strZ (ntxt p xss xss.length)), .int .i64 0]) (by simp [results, Tryd.results5, go_sem, *]) rfl ?_
    exact ⟨by rw [hr.out.1, hr.out.2], by go_grown⟩
  · have hr := Lib.hid (resNT_no hN)
    have HN : Hid (decide (Net p xss) = false) := decide_eq_false hN
    clear hN
    go_enter Tryd.func5, Tryd.ntmps5
    go_wp2_with (go_at_call 10; (with_reducible refine (l02Is_b _ _ xss _ HR.out HN.out).mono ?_); rintro e w' ⟨rfl, hb⟩; have hL := chain (B := w.heap.size) (a := w) (by go_grown) (Nat.le_refl _) hb; clear hb)
    refine bodyPost_ret (v := .tuple #[.string ⟨#[]⟩, .int .i64 1]) (by simp [results, Tryd.results5, go_sem, *]) rfl ?_
    exact ⟨by rw [hr.out.1, hr.out.2], by go_grown⟩

end Go.Proofs.YtglbndobbmgjmaaDoor
