/- readFormula at every text, and IsFormula. -/
import Derived.Test.YtohmhiodmaahfaaDoorRf
namespace Go.Proofs.YtohmhiodmaahfaaDoor
open Go.RowKit
set_option linter.unusedVariables false

set_option maxRecDepth 100000 in
set_option maxHeartbeats 1000000 in
theorem readFormula_any (s : ByteArray) (w : World) {R : Option Fm} (hR : fmOf s = R) :
    Calls Tryd.prog 30 #[.string s] w fun e w' => RfPost w R e w' := by
  by_cases hs : s.size ≤ 80
  · exact readFormula_small s w hs (by rw [← hR]; unfold fmOf; rw [if_pos hs])
  · have HR : Hid (R = none) := by rw [Hid, ← hR]; unfold fmOf; rw [if_neg hs]
    have h80 : (80 : Int) < (s.size : Int) := by omega
    have kr := (C2.here w (.int .u8 0) (.slice none 0 0) 50).alloc (.cells #[.int .u8 0, .slice none 0 0] 50)
    have hL := ((Below.refl w.heap.size w).alloc (Nat.le_refl _) (.cells #[.int .u8 0, .slice none 0 0] 50)).alloc (by simp) (.cells #[.int .u8 0, .slice none 0 0] 50)
    clear hR hs
    go_enter Tryd.func30, Tryd.ntmps30
    go_wp2
    refine wp_scope_two (by rfl) (by rfl) (fun _ _ _ => False) (fun _ _ _ => 0) (fun l a w h => h.elim) (fun M a w h _ => h.elim) (fun _ M a w h _ => h.elim) (fun _ => ⟨0, ?_⟩)
    go_wp2
    simp only [jumpN]
    refine bodyPost_ret (v := .tuple #[.agg #[.int .u8 0, .slice none 0 0], .bool false]) (by simp [results, Tryd.results30, go_sem, *]) rfl ?_
    exact ⟨0, none, 0, 0, false, rfl, by rw [HR.out]; rfl, (fun t h => by rw [HR.out] at h; cases h), by first | exact hL | go_grown | exact hL.setCell (by simp) _⟩

end Go.Proofs.YtohmhiodmaahfaaDoor
