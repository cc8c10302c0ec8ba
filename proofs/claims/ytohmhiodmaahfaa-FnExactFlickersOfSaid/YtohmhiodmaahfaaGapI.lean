/- Moments of a formula: the program's. -/
import Derived.Test.YtohmhiodmaahfaaFvI
import Derived.Test.YtohmhiodmaahfaaGapM
import Derived.Deep.RegionWith
namespace Go.Proofs.Ytohmhiodmaahfaa
open Go.RowKit
set_option linter.unusedVariables false

theorem pow5 {i : Int} (i0 : 0 ≤ i) (i1 : i < 5) : IntKind.i64.wrap (2 ^ i.toNat) = 2 ^ i.toNat ∧ wrap64 (2 ^ i.toNat) = 2 ^ i.toNat := by
  have h : i.toNat < 5 := by omega
  have key : ∀ k : Fin 5, IntKind.i64.wrap (2 ^ k.val) = 2 ^ k.val ∧ wrap64 (2 ^ k.val) = 2 ^ k.val := by decide +kernel
  exact key ⟨i.toNat, h⟩

set_option maxRecDepth 100000 in
set_option maxHeartbeats 1000000 in
theorem changeIn_any (sg : Int) (va : Option Addr) (n vc : Nat) {row input : Int} (w : World) (h0 : 0 ≤ row) (h1 : row ≤ 31) (i0 : 0 ≤ input) (i1 : input < 5) :
    Calls Try.prog 46 #[.agg #[.int .u8 sg, .slice va n vc], .int .i64 row, .int .i64 input] w fun e w' => e = .returned (.agg #[.int .u8 sg, .slice va n vc, .int .i64 (lowR row input), .int .i64 (highR row input)]) ∧ Below w.heap.size w w' := by
  have HL1 := (lowR_bits h0 h1 i0 i1).1
  have HL2 := (lowR_bits h0 h1 i0 i1).2
  have hp := pow5 i0 i1
  have hp1 := hp.1
  have hp2 := hp.2
  clear hp
  go_enter Try.func46, Try.ntmps46
  go_wp2_with fail
  go_region
  all_goals (go_wp2_with fail)
  all_goals (refine bodyPost_ret (v := .agg #[.int .u8 sg, .slice va n vc, .int .i64 (lowR row input), .int .i64 (highR row input)]) (by simp [results, Try.results46, go_sem, *]) rfl ?_)
  all_goals exact ⟨rfl, by go_grown⟩

set_option maxRecDepth 100000 in
set_option maxHeartbeats 1000000 in
theorem inLow_any (m b : Int) (hm0 : 0 ≤ m) (hm1 : m ≤ 31) (hb0 : 0 ≤ b) (hb1 : b ≤ 31) {t : Fm} {B : Nat} {va : Option Addr} {vc : Nat} {bs : List Nat} (w : World) (hw : wfF t) (hz : (txtF t).length ≤ 1048576) (hh : Hold w B (.slice va t.members.length vc) t.members bs) :
    Calls Try.prog 63 #[.agg #[.int .u8 t.sign, .slice va t.members.length vc, .int .i64 m, .int .i64 b]] w fun e w' => e = .returned (.int .i64 (b2i (valF (leafW (digZ m) (digZ m)) t))) ∧ Below w.heap.size w w' := by
  have HF := Lib.hid (fun wx (h : Below w.heap.size w wx) => formulaValue_any m m hm0 hm1 hm0 hm1 (txtF t).length t wx B _ bs hw (Nat.le_refl _) hz (hh.keep h))
  clear hh
  generalize b2i (valF (leafW (digZ m) (digZ m)) t) = Y at *
  generalize t.members.length = n at *
  generalize t.sign = sg at *
  clear hw hz
  go_enter Try.func63, Try.ntmps63
  go_wp2_with (go_at_call 43; (with_reducible refine (HF.out _ (by go_grown)).mono ?_); rintro e w2 ⟨rfl, hb⟩; have hL := chain (B := w.heap.size) (a := w) (by go_grown) (Nat.le_refl _) hb)
  go_ret
  exact ⟨rfl, hL⟩

set_option maxRecDepth 100000 in
set_option maxHeartbeats 1000000 in
theorem inHigh_any (m b : Int) (hm0 : 0 ≤ m) (hm1 : m ≤ 31) (hb0 : 0 ≤ b) (hb1 : b ≤ 31) {t : Fm} {B : Nat} {va : Option Addr} {vc : Nat} {bs : List Nat} (w : World) (hw : wfF t) (hz : (txtF t).length ≤ 1048576) (hh : Hold w B (.slice va t.members.length vc) t.members bs) :
    Calls Try.prog 64 #[.agg #[.int .u8 t.sign, .slice va t.members.length vc, .int .i64 m, .int .i64 b]] w fun e w' => e = .returned (.int .i64 (b2i (valF (leafW (digZ b) (digZ b)) t))) ∧ Below w.heap.size w w' := by
  have HF := Lib.hid (fun wx (h : Below w.heap.size w wx) => formulaValue_any b b hb0 hb1 hb0 hb1 (txtF t).length t wx B _ bs hw (Nat.le_refl _) hz (hh.keep h))
  clear hh
  generalize b2i (valF (leafW (digZ b) (digZ b)) t) = Y at *
  generalize t.members.length = n at *
  generalize t.sign = sg at *
  clear hw hz
  go_enter Try.func64, Try.ntmps64
  go_wp2_with (go_at_call 43; (with_reducible refine (HF.out _ (by go_grown)).mono ?_); rintro e w2 ⟨rfl, hb⟩; have hL := chain (B := w.heap.size) (a := w) (by go_grown) (Nat.le_refl _) hb)
  go_ret
  exact ⟨rfl, hL⟩

set_option maxRecDepth 100000 in
set_option maxHeartbeats 1000000 in
theorem inGap_any (m b : Int) (hm0 : 0 ≤ m) (hm1 : m ≤ 31) (hb0 : 0 ≤ b) (hb1 : b ≤ 31) {t : Fm} {B : Nat} {va : Option Addr} {vc : Nat} {bs : List Nat} (w : World) (hw : wfF t) (hz : (txtF t).length ≤ 1048576) (hh : Hold w B (.slice va t.members.length vc) t.members bs) :
    Calls Try.prog 27 #[.agg #[.int .u8 t.sign, .slice va t.members.length vc, .int .i64 m, .int .i64 b]] w fun e w' => e = .returned (.int .i64 (b2i (valF (leafW (digZ m) (digZ b)) t))) ∧ Below w.heap.size w w' := by
  have HF := Lib.hid (fun wx (h : Below w.heap.size w wx) => formulaValue_any m b hm0 hm1 hb0 hb1 (txtF t).length t wx B _ bs hw (Nat.le_refl _) hz (hh.keep h))
  clear hh
  generalize b2i (valF (leafW (digZ m) (digZ b)) t) = Y at *
  generalize t.members.length = n at *
  generalize t.sign = sg at *
  clear hw hz
  go_enter Try.func27, Try.ntmps27
  go_wp2_with (go_at_call 43; (with_reducible refine (HF.out _ (by go_grown)).mono ?_); rintro e w2 ⟨rfl, hb⟩; have hL := chain (B := w.heap.size) (a := w) (by go_grown) (Nat.le_refl _) hb)
  go_ret
  exact ⟨rfl, hL⟩

set_option maxRecDepth 100000 in
set_option maxHeartbeats 1000000 in
theorem inBridge_any (m b : Int) (hm0 : 0 ≤ m) (hm1 : m ≤ 31) (hb0 : 0 ≤ b) (hb1 : b ≤ 31) {t : Fm} {B : Nat} {va : Option Addr} {vc : Nat} {bs : List Nat} (w : World) (hw : wfF t) (hz : (txtF t).length ≤ 1048576) (hh : Hold w B (.slice va t.members.length vc) t.members bs) :
    Calls Try.prog 28 #[.agg #[.int .u8 t.sign, .slice va t.members.length vc, .int .i64 m, .int .i64 b]] w fun e w' => e = .returned (.int .i64 (b2i (valF (leafW (digZ b) (digZ m)) t))) ∧ Below w.heap.size w w' := by
  have HF := Lib.hid (fun wx (h : Below w.heap.size w wx) => formulaValue_any b m hb0 hb1 hm0 hm1 (txtF t).length t wx B _ bs hw (Nat.le_refl _) hz (hh.keep h))
  clear hh
  generalize b2i (valF (leafW (digZ b) (digZ m)) t) = Y at *
  generalize t.members.length = n at *
  generalize t.sign = sg at *
  clear hw hz
  go_enter Try.func28, Try.ntmps28
  go_wp2_with (go_at_call 43; (with_reducible refine (HF.out _ (by go_grown)).mono ?_); rintro e w2 ⟨rfl, hb⟩; have hL := chain (B := w.heap.size) (a := w) (by go_grown) (Nat.le_refl _) hb)
  go_ret
  exact ⟨rfl, hL⟩

end Go.Proofs.Ytohmhiodmaahfaa
