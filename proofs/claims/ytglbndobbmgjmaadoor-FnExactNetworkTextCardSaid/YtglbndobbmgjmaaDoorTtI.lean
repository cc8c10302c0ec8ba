/- TableText: the program's. -/
import Derived.Test.YtglbndobbmgjmaaDoorTtM
import Derived.Test.YtglbndobbmgjmaaDoorAt
import Derived.Test.YtglbndobbmgjmaaDoorOwn
import Derived.LoopTactic
namespace Go.Proofs.YtglbndobbmgjmaaDoor
open Go.RowKit
set_option linter.unusedVariables false

theorem cases9 {n : Int} (h1 : 1 ≤ n) (h9 : n ≤ 9) : n = 1 ∨ n = 2 ∨ n = 3 ∨ n = 4 ∨ n = 5 ∨ n = 6 ∨ n = 7 ∨ n = 8 ∨ n = 9 := by omega
theorem small_any (n : Int) (w : World) (n1 : 1 ≤ n) (n5 : n ≤ 9) :
    Calls Tryd.prog 31 #[.int .i64 n] w fun e w' => e = .returned (.string (strZ [48 + n])) ∧ w = w' := by
  rcases cases9 n1 n5 with rfl | rfl | rfl | rfl | rfl | rfl | rfl | rfl | rfl <;>
  · go_enter Tryd.func31, Tryd.ntmps31
    go_wp2
    go_ret
    exact ⟨rfl, rfl⟩

theorem strCells_one (c : Int) (h0 : 0 ≤ c) (h1 : c < 256) : Lib.strCells (strZ [c]) = [.int .u8 c] := by
  simp [Lib.strCells, strZ, u8_nat h0 h1]

theorem fresh_one (w : World) (c : Int) (h0 : 0 ≤ c) (h1 : c < 256) :
    OwnsU (w.alloc (.cells ((Array.map (fun b => Value.int .u8 (b.toNat : Int)) (strZ [c]).data).extract 0 1 ++ Builtin.zeroCells #[Value.int .u8 0] ((Question.appendCap 1 0 5).cut (w.tape w.drawn (.appendCap 1 0 5)) - 1)) 5)).drew w.heap.size
      (.slice (some ⟨w.heap.size, 0, none⟩) 1 ((Question.appendCap 1 0 5).cut (w.tape w.drawn (.appendCap 1 0 5)))) [c] := by
  have hge := grownCap_ge w 1 0 5
  have hcm := grownCap_le_maxLen w 1 0 5 (by decide)
  unfold grownCap at hge hcm
  refine ⟨rfl, .inr ⟨w.heap.size, _, _, rfl, Nat.le_refl _, heap_alloc_new w _, hge, hcm, ?_, ?_⟩⟩
  · have hs : (strZ [c]).data.size = 1 := rfl
    simp only [Array.size_append, Array.size_extract, Array.size_map, size_zeroCells, hs]
    simp
    omega
  · simp [strZ, u8_nat h0 h1]

set_option maxRecDepth 100000 in
set_option maxHeartbeats 1000000 in
theorem appendUint_any (n : Int) (w : World) (n1 : 1 ≤ n) (n5 : n ≤ 9) :
    Calls Tryd.prog 29 #[.slice none 0 0, .int .u64 n, .int .i64 10] w fun e w' => ∃ u, e = .returned u ∧ OwnsU w' w.heap.size u [48 + n] ∧ Below w.heap.size w w' := by
  obtain ⟨i0, hi, hz0, hz1, hz2⟩ := info_parts infoU8
  have hsz : (strZ [48 + n]).size = 1 := rfl
  have HCells := Lib.hid (strCells_one (48 + n) (by omega) (by omega))
  have HS := Lib.hid (fun w => small_any n w n1 n5)
  go_enter Tryd.func29, Tryd.ntmps29
  go_wp2_with (go_at_call 31; (with_reducible refine (HS.out _).mono ?_); rintro e w' ⟨rfl, rfl⟩)
  go_ret
  exact ⟨_, rfl, fresh_one w (48 + n) (by omega) (by omega), ((Below.refl _ _).alloc (Nat.le_refl _) _).drew⟩

set_option maxRecDepth 100000 in
set_option maxHeartbeats 1000000 in
theorem appendInt_any (n : Int) (w : World) (n1 : 1 ≤ n) (n5 : n ≤ 9) :
    Calls Tryd.prog 25 #[.slice none 0 0, .int .i64 n, .int .i64 10] w fun e w' => ∃ u, e = .returned u ∧ OwnsU w' w.heap.size u [48 + n] ∧ Below w.heap.size w w' := by
  have HS := Lib.hid (fun w => appendUint_any n w n1 n5)
  have hW : IntKind.u64.wrap n = n := IntWalk.u64_in n (by omega)
  go_enter Tryd.func25, Tryd.ntmps25
  go_wp2_with (go_at_call 29; (with_reducible refine (HS.out _).mono ?_); rintro e w' ⟨u, rfl, hown, hbel⟩)
  go_ret
  exact ⟨_, rfl, hown, hbel⟩

set_option maxRecDepth 100000 in
set_option maxHeartbeats 1000000 in
theorem strAppendInt_any (n : Int) (w : World) (n1 : 1 ≤ n) (n5 : n ≤ 9) :
    Calls Tryd.prog 14 #[.slice none 0 0, .int .i64 n, .int .i64 10] w fun e w' => ∃ u, e = .returned u ∧ OwnsU w' w.heap.size u [48 + n] ∧ Below w.heap.size w w' := by
  have HS := Lib.hid (fun w => appendInt_any n w n1 n5)
  go_enter Tryd.func14, Tryd.ntmps14
  go_wp2_with (go_at_call 25; (with_reducible refine (HS.out _).mono ?_); rintro e w' ⟨u, rfl, hown, hbel⟩)
  go_ret
  exact ⟨_, rfl, hown, hbel⟩

end Go.Proofs.YtglbndobbmgjmaaDoor
