/- Moments of a formula: the program's. -/
import Derived.Test.YtohmhiodmaahfaaDoorFvI
import Derived.Test.YtohmhiodmaahfaaDoorGapM
import Derived.Deep.RegionWith
namespace Go.Proofs.YtohmhiodmaahfaaDoor
open Go.RowKit
set_option linter.unusedVariables false

theorem pow5 {i : Int} (i0 : 0 ≤ i) (i1 : i < 5) : IntKind.i64.wrap (2 ^ i.toNat) = 2 ^ i.toNat ∧ wrap64 (2 ^ i.toNat) = 2 ^ i.toNat := by
  have h : i.toNat < 5 := by omega
  have key : ∀ k : Fin 5, IntKind.i64.wrap (2 ^ k.val) = 2 ^ k.val ∧ wrap64 (2 ^ k.val) = 2 ^ k.val := by decide +kernel
  exact key ⟨i.toNat, h⟩

set_option maxRecDepth 100000 in
set_option maxHeartbeats 1000000 in
theorem inGap_any (m b : Int) (hm0 : 0 ≤ m) (hm1 : m ≤ 31) (hb0 : 0 ≤ b) (hb1 : b ≤ 31) {t : Fm} {B : Nat} {va : Option Addr} {vc : Nat} {bs : List Nat} (w : World) (hw : wfF t) (hz : (txtF t).length ≤ 1048576) (hh : Hold w B (.slice va t.members.length vc) t.members bs) :
    Calls Tryd.prog 33 #[.agg #[.int .u8 t.sign, .slice va t.members.length vc, .int .i64 m, .int .i64 b]] w fun e w' => e = .returned (.int .i64 (b2i (valF (leafW (digZ m) (digZ b)) t))) ∧ Below w.heap.size w w' := by
  have HF := Lib.hid (fun wx (h : Below w.heap.size w wx) => formulaValue_any m b hm0 hm1 hb0 hb1 (txtF t).length t wx B _ bs hw (Nat.le_refl _) hz (hh.keep h))
  clear hh
  generalize b2i (valF (leafW (digZ m) (digZ b)) t) = Y at *
  generalize t.members.length = n at *
  generalize t.sign = sg at *
  clear hw hz
  go_enter Tryd.func33, Tryd.ntmps33
  go_wp2_with (go_at_call 68; (with_reducible refine (HF.out _ (by go_grown)).mono ?_); rintro e w2 ⟨rfl, hb⟩; have hL := chain (B := w.heap.size) (a := w) (by go_grown) (Nat.le_refl _) hb)
  go_ret
  exact ⟨rfl, hL⟩

set_option maxRecDepth 100000 in
set_option maxHeartbeats 1000000 in
theorem inBridge_any (m b : Int) (hm0 : 0 ≤ m) (hm1 : m ≤ 31) (hb0 : 0 ≤ b) (hb1 : b ≤ 31) {t : Fm} {B : Nat} {va : Option Addr} {vc : Nat} {bs : List Nat} (w : World) (hw : wfF t) (hz : (txtF t).length ≤ 1048576) (hh : Hold w B (.slice va t.members.length vc) t.members bs) :
    Calls Tryd.prog 34 #[.agg #[.int .u8 t.sign, .slice va t.members.length vc, .int .i64 m, .int .i64 b]] w fun e w' => e = .returned (.int .i64 (b2i (valF (leafW (digZ b) (digZ m)) t))) ∧ Below w.heap.size w w' := by
  have HF := Lib.hid (fun wx (h : Below w.heap.size w wx) => formulaValue_any b m hb0 hb1 hm0 hm1 (txtF t).length t wx B _ bs hw (Nat.le_refl _) hz (hh.keep h))
  clear hh
  generalize b2i (valF (leafW (digZ b) (digZ m)) t) = Y at *
  generalize t.members.length = n at *
  generalize t.sign = sg at *
  clear hw hz
  go_enter Tryd.func34, Tryd.ntmps34
  go_wp2_with (go_at_call 68; (with_reducible refine (HF.out _ (by go_grown)).mono ?_); rintro e w2 ⟨rfl, hb⟩; have hL := chain (B := w.heap.size) (a := w) (by go_grown) (Nat.le_refl _) hb)
  go_ret
  exact ⟨rfl, hL⟩

end Go.Proofs.YtohmhiodmaahfaaDoor
