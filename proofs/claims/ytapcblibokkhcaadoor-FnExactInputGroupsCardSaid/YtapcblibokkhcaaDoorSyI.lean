/- IsSymmetric: the program's. -/
import Derived.Test.YtapcblibokkhcaaDoorGrp
import Derived.Test.YtapcblibokkhcaaDoorDoor
import Derived.Test.YtapcblibokkhcaaDoorSyR
namespace Go.Proofs.YtapcblibokkhcaaDoor
open Go.RowKit
set_option linter.unusedVariables false

set_option maxRecDepth 100000 in
set_option maxHeartbeats 1000000 in
theorem isSymmetric_any (v : Int) (N : Nat) (w : World) (n1 : 1 ≤ N) (n5 : N ≤ 5) (h0 : 0 ≤ v) (hv : v < 9223372036854775808) {b : Bool} (hb : symB v N = b) :
    Calls Tryd.prog 34 #[.agg #[.int .i64 (N : Int), .int .i64 v]] w fun e w' => e = .returned (.bool b) ∧ Below w.heap.size w w' := by
  have HG := Lib.hid (fun w => groupsOf_any v N w n1 n5 h0 hv)
  have HB : Hid (decide ((grps (alB v N) N).length = 1) = b) := by rw [Hid, symB_one v n5 n1]; exact hb
  have k0 := C2.here w (.int .i64 (N : Int)) (.int .i64 v) 26
  clear hb
  generalize grps (alB v N) N = G at *
  go_enter Tryd.func34, Tryd.ntmps34
  go_wp2_with fail
  refine (HG.out _).mono ?_
  rintro e w1 ⟨u, rfl, ou, hb⟩
  have hL := chain (B := w.heap.size) (a := w) (by go_grown) (Nat.le_refl _) hb
  obtain ⟨V, hV⟩ := ou.name
  obtain ⟨ua, ucap, rfl, _⟩ := hV.form
  clear hV ou hb k0
  by_cases h : G.length = 1
  · have hd : ((G.length : Int) == 1) = true := by rw [h]; rfl
    have HB2 : Hid (b = true) := HB.out.symm.trans (decide_eq_true h)
    clear h
    go_wp2_with fail
    go_ret
    exact ⟨by rw [HB2.out]; rfl, hL⟩
  · have hd : ((G.length : Int) == 1) = false := by rw [beq_eq_false_iff_ne]; omega
    have HB2 : Hid (b = false) := HB.out.symm.trans (decide_eq_false h)
    clear h
    go_wp2_with fail
    go_ret
    exact ⟨by rw [HB2.out]; rfl, hL⟩

theorem symClos_any (n v : Int) (w : World) (ht : isTab n v = true) {b : Bool} (hb : symB v n.toNat = b) :
    Calls Tryd.prog 33 #[.agg #[.int .i64 n, .int .i64 v]] w fun e w' => e = .returned (.tuple #[.bool b, .int .i64 0]) ∧ Below w.heap.size w w' := by
  obtain ⟨n1, n5, h0, hv⟩ := tab_bd ht
  obtain ⟨N, rfl⟩ := Int.eq_ofNat_of_zero_le (show 0 ≤ n by omega)
  rw [Int.toNat_natCast] at hb
  have HC := Lib.hid (fun w => isSymmetric_any v N w (by omega) (by omega) h0 hv hb)
  have k0 := C2.here w (.int .i64 (N : Int)) (.int .i64 v) 26
  clear hb ht
  go_enter Tryd.func33, Tryd.ntmps33
  go_wp2_with (go_at_call 34; (with_reducible refine (HC.out _).mono ?_); rintro e w1 ⟨rfl, hb⟩; have hL := chain (B := w.heap.size) (a := w) (by go_grown) (Nat.le_refl _) hb)
  go_ret2
  exact ⟨rfl, hL⟩

set_option maxRecDepth 100000 in
set_option maxHeartbeats 1000000 in
theorem iIsSymmetric_any (n v : Int) (a : Addr) (w : World) (hg : w.cell? ⟨0, 0, none⟩ = some (errV a)) :
    Calls Tryd.prog 12 #[.agg #[.int .i64 n, .int .i64 v]] w fun e w' => e = .returned (.tuple #[.bool (resIsSymmetric_0 n v), .int .i64 (resIsSymmetric_1 n v)]) ∧ Below w.heap.size w w' := by
  by_cases ht : isTab n v = true
  · have HT := Lib.hid ht
    have HC : Hid (resIsSymmetric_1 n v = 0) := by unfold Hid resIsSymmetric_1; rw [if_pos ht]
    have HR : Hid (resIsSymmetric_0 n v = symB v n.toNat) := by unfold Hid resIsSymmetric_0; rw [ht]; rfl
    have HCL : Hid (∀ wx : World, Calls Tryd.prog 33 #[.agg #[.int .i64 n, .int .i64 v]] wx fun e w' => e = .returned (.tuple #[.bool (symB v n.toNat), .int .i64 0]) ∧ Below wx.heap.size wx w') := fun wx => symClos_any n v wx HT.out rfl
    clear ht
    generalize symB v n.toNat = r at *
    go_enter Tryd.func12, Tryd.ntmps12
    go_wp2_with fail
    refine (doorBool_yes n v 33 #[] r 0 _ HT.out (fun wx _ => HCL.out wx) (enters_of Tryd.func33 (by kernel_rfl) rfl)).mono ?_
    rintro e w1 ⟨rfl, hb⟩
    have hL := chain (B := w.heap.size) (a := w) (by go_grown) (Nat.le_refl _) hb
    clear hb
    go_wp2_with fail
    refine bodyPost_ret (v := .tuple #[.bool r, .int .i64 0]) (by simp [results, Tryd.results12, go_sem, *]) rfl ?_
    exact ⟨by rw [HR.out, HC.out], hL⟩
  · have ht : isTab n v = false := by simpa using ht
    have HT := Lib.hid ht
    have HC : Hid (resIsSymmetric_1 n v = 1) := by unfold Hid resIsSymmetric_1; rw [ht]; rfl
    have HR : Hid (resIsSymmetric_0 n v = false) := by unfold Hid resIsSymmetric_0; rw [ht]; rfl
    clear ht
    have cg : (w.alloc (.cells #[.int .i64 n, .int .i64 v] 26)).cell? ⟨0, 0, none⟩ = some (errV a) := cell_later (by go_grown) hg
    have Hg := Lib.hid cg
    clear cg
    go_enter Tryd.func12, Tryd.ntmps12
    go_wp2_with fail
    refine (doorBool_no n v a 33 _ _ HT.out Hg.out).mono ?_
    rintro e w1 ⟨rfl, hb⟩
    have hL := chain (B := w.heap.size) (a := w) (by go_grown) (Nat.le_refl _) hb
    clear hb
    go_wp2_with fail
    refine bodyPost_ret (v := .tuple #[.bool false, .int .i64 1]) (by simp [results, Tryd.results12, go_sem, *]) rfl ?_
    exact ⟨by rw [HR.out, HC.out], hL⟩

end Go.Proofs.YtapcblibokkhcaaDoor
