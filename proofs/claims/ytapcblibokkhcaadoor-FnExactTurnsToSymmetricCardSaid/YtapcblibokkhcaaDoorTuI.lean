/- TurnsToSymmetric: the program's. -/
import Derived.Test.YtapcblibokkhcaaDoorTuM
import Derived.Test.YtapcblibokkhcaaDoorNuI
namespace Go.Proofs.YtapcblibokkhcaaDoor
open Go.RowKit
set_option linter.unusedVariables false

theorem turnClos_any (k t bt : Nat) (w : World) (hk : k < 32) (ht : t < 32) (hc : w.cell? ⟨bt, 0, none⟩ = some (.int .i64 (t : Int))) :
    Calls Tryd.prog 63 #[.int .i64 (k : Int), .pointer (some ⟨bt, 0, none⟩)] w fun e w' => e = .returned (.int .i64 ((k ^^^ t : Nat) : Int)) ∧ Below w.heap.size w w' := by
  have HX := Lib.hid (i64_xor k t (by omega) (by omega))
  go_enter Tryd.func63, Tryd.ntmps63
  go_wp2
  go_ret
  exact ⟨by rw [← HX.out]; rfl, Below.refl _ _⟩

theorem turned_any (v : Int) (N t bt : Nat) (wx : World) (n1 : 1 ≤ N) (n5 : N ≤ 5) (h0 : 0 ≤ v) (hv : v < 9223372036854775808) (htl : t < 2 ^ N) (hc : wx.cell? ⟨bt, 0, none⟩ = some (.int .i64 (t : Int))) :
    Calls Tryd.prog 62 #[.agg #[.int .i64 (N : Int), .int .i64 v], .int .i64 (N : Int), .func (.func 63) #[] #[.pointer (some ⟨bt, 0, none⟩)]] wx fun e w' => e = .returned (.agg #[.int .i64 (N : Int), .int .i64 (turnV v N t)]) ∧ Below wx.heap.size wx w' := by
  have h32 := pow5 n5
  have h := tableFrom_any (N : Int) v (N : Int) 63 #[.pointer (some ⟨bt, 0, none⟩)] (fun k => k ^^^ t) wx h0 hv (by omega) (by omega)
    (fun k wy hk hb => by rw [Int.toNat_natCast] at hk; exact turnClos_any k t bt wy (by omega) (by omega) (cell_later hb hc))
    (fun k hk => by rw [Int.toNat_natCast] at hk; have := xor_lt hk htl; omega)
    (enters_of Tryd.func63 (by kernel_rfl) rfl)
  rw [Int.toNat_natCast] at h
  exact h

set_option maxRecDepth 100000 in
set_option maxHeartbeats 4000000 in
theorem turnsToSymmetric_any (n v : Int) (w : World) (ht : isTab n v = true) :
    Calls Tryd.prog 44 #[.agg #[.int .i64 n, .int .i64 v]] w fun e w' => ∃ u, e = .returned (.tuple #[u, .int .i64 (resTurnsToSymmetric_1 n v)]) ∧ Owns w' w.heap.size u (resTurnsToSymmetric_0 n v) ∧ Below w.heap.size w w' := by
  obtain ⟨n1, n5, h0, hv⟩ := tab_bd ht
  obtain ⟨N, rfl⟩ := Int.eq_ofNat_of_zero_le (show 0 ≤ n by omega)
  have hmf : ∀ (fn : Fn) (first cap : Array Value) (w : World), (Instr.makeFunc fn first cap).run Tryd.prog w = .ok (.func fn first cap) w := fun _ _ _ _ => rfl
  have k0 := C2.here w (.int .i64 (N : Int)) (.int .i64 v) 26
  obtain ⟨j, hj, hno, hyes⟩ := firstB (fun t => symB (turnV v N t) N) (2 ^ N)
  have hN5 : N ≤ 5 := by omega
  have h32 := pow5 hN5
  have HSome : Hid (j < 2 ^ N → resTurnsToSymmetric_0 (N : Int) v = onesTo (j : Int) 62 ∧ resTurnsToSymmetric_1 (N : Int) v = 0) := fun h => by
    have := resTu_some ht (Int.toNat_natCast N) (find_some _ _ j h hno (hyes h))
    rw [turn_list h (by omega : N ≤ 62)]
    exact this
  have HNone : Hid (j = 2 ^ N → resTurnsToSymmetric_0 (N : Int) v = [] ∧ resTurnsToSymmetric_1 (N : Int) v = 4) := fun h => by
    subst h
    exact resTu_none ht (Int.toNat_natCast N) (find_none _ _ hno)
  have HNo := Lib.hid hno
  have HYes := Lib.hid hyes
  have HT := Lib.hid (fun (t bt : Nat) (wx : World) (htl : t < 2 ^ N) (hc : wx.cell? ⟨bt, 0, none⟩ = some (.int .i64 (t : Int))) => turned_any v N t bt wx (by omega) hN5 h0 hv htl hc)
  have HR : Hid (∀ w, Calls Tryd.prog 29 #[.int .i64 (N : Int)] w fun e w' => e = .returned (.int .i64 ((2 ^ N : Nat) : Int)) ∧ w = w') := fun w => by
    have := rowCount_any (N : Int) w n1 n5
    unfold rcZ at this
    rw [Int.toNat_natCast] at this
    exact this
  have HSy := Lib.hid (fun (t : Nat) (w : World) (b : Bool) (hb : symB (turnV v N t) N = b) => isSymmetric_any (turnV v N t) N w (by omega) hN5 (turnV_bd v t hN5).1 (turnV_bd v t hN5).2 hb)
  have HM : Hid (∀ (t : Nat) w, t < 2 ^ N → Calls Tryd.prog 56 #[.int .i64 (t : Int)] w fun e w' => ∃ u, e = .returned u ∧ Owns w' w.heap.size u (onesTo (t : Int) 62) ∧ Below w.heap.size w w') := fun t w h => membersOf_any _ w (by omega) (by omega)
  obtain ⟨M, hM⟩ : ∃ M, 2 ^ N = M := ⟨_, rfl⟩
  rw [hM] at hj HSome HNone HYes HT HR HM h32
  clear hno hyes ht hM
  generalize resTurnsToSymmetric_0 (N : Int) v = R0 at *
  generalize resTurnsToSymmetric_1 (N : Int) v = R1 at *
  go_enter Tryd.func44, Tryd.ntmps44
  go_wp2_with ((go_at_call 29; (with_reducible refine (HR.out _).mono ?_); rintro e w' ⟨rfl, rfl⟩))
  go_loopw [8] (fun c wr => ∃ k : Nat, k ≤ j ∧ c = .int .i64 (k : Int) ∧ Below w.heap.size w wr ∧ C2 wr w.heap.size (.int .i64 (N : Int)) (.int .i64 v)) (fun c _ => M - (intOf c).toNat)
  case atStart => exact ⟨0, Nat.zero_le _, rfl, by go_grown, k0⟩
  case round =>
    clear k0
    obtain ⟨k, hk, rfl, hL, k0⟩ := hrel
    have hz := hL.size
    by_cases hlt : k < M
    · have hi1 : (k : Int) < (M : Int) := by omega
      have hi0 : (0 : Int) ≤ (k : Int) := by omega
      have hkc : (wr.alloc (.cells #[.int .i64 (k : Int)] 2)).cell? ⟨wr.heap.size, 0, none⟩ = some (.int .i64 (k : Int)) := by rw [World.cell?_alloc_at _ _ _ _ rfl]; rfl
      have HTk := Lib.hid (HT.out k wr.heap.size (wr.alloc (.cells #[.int .i64 (k : Int)] 2)) hlt hkc)
      by_cases hkj : k < j
      · have HSk := Lib.hid (fun w => HSy.out k w false (HNo.out k hkj))
        clear HT HSy HM
        generalize turnV v N k = Y at *
        go_wp2_with (first | (go_at_call 62; (with_reducible refine HTk.out.mono ?_); rintro e w1 ⟨rfl, hb⟩; have hL := chain (B := w.heap.size) (a := w) (by go_grown) (Nat.le_refl _) hb; have k1 := keepAt hb (k0.alloc _); clear hb) | (go_at_call 34; (with_reducible refine (HSk.out _).mono ?_); rintro e w2 ⟨rfl, hb⟩; have hL := chain (B := w.heap.size) (a := w) hL (Nat.le_refl _) hb; have k2 := keepAt hb k1; clear hb))
        exact ⟨⟨k + 1, by omega, by go_num, hL, k2⟩, by simp [intOf]; omega⟩
      · have e : k = j := by omega
        have HSk := Lib.hid (fun w => HSy.out k w true (by rw [e]; exact HYes.out (by omega)))
        have HMk := Lib.hid (fun w => HM.out k w hlt)
        have HRes := HSome.out (by omega)
        rw [← e] at HRes
        have HRs := Lib.hid HRes
        clear HT HSy HM HRes e HNo HYes HSome HNone
        generalize turnV v N k = Y at *
        go_wp2_with (first | (go_at_call 62; (with_reducible refine HTk.out.mono ?_); rintro e w1 ⟨rfl, hb⟩; have hL := chain (B := w.heap.size) (a := w) (by go_grown) (Nat.le_refl _) hb; have hk1 := cell_later hb hkc; have hz1 := hL.size; clear hb) | (go_at_call 34; (with_reducible refine (HSk.out _).mono ?_); rintro e w2 ⟨rfl, hb⟩; have hL := chain (B := w.heap.size) (a := w) hL (Nat.le_refl _) hb; have hk2 := cell_later hb hk1; have hz2 := hL.size; clear hb) | (go_at_call 56; (with_reducible refine (HMk.out _).mono ?_); rintro e w3 ⟨u, rfl, ou, hb⟩; have hL := chain (B := w.heap.size) (a := w) hL (Nat.le_refl _) hb; clear hb))
        go_ret2
        exact ⟨_, by rw [HRs.out.2]; rfl, by rw [HRs.out.1]; exact ou.mono hz2, hL⟩
    · have HRs := Lib.hid (HNone.out (by omega))
      have hng : ¬ (k : Int) < (M : Int) := by omega
      go_wp2_with fail
      go_ret2
      exact ⟨_, by rw [HRs.out.2]; rfl, by rw [HRs.out.1]; exact World.ownsRow_nil _ _ _ _, hL⟩

set_option maxRecDepth 100000 in
set_option maxHeartbeats 1000000 in
theorem iTurnsToSymmetric_any (n v : Int) (a : Addr) (w : World) (hg : w.cell? ⟨0, 0, none⟩ = some (errV a)) :
    Calls Tryd.prog 24 #[.agg #[.int .i64 n, .int .i64 v]] w fun e w' => ∃ u, e = .returned (.tuple #[u, .int .i64 (resTurnsToSymmetric_1 n v)]) ∧ Owns w' w.heap.size u (resTurnsToSymmetric_0 n v) ∧ Below w.heap.size w w' := by
  by_cases ht : isTab n v = true
  · have HT := Lib.hid ht
    have HCL : Hid (∀ wx : World, Calls Tryd.prog 44 #[.agg #[.int .i64 n, .int .i64 v]] wx fun e w' => ∃ u, e = .returned (.tuple #[u, .int .i64 (resTurnsToSymmetric_1 n v)]) ∧ Owns w' wx.heap.size u (resTurnsToSymmetric_0 n v) ∧ Below wx.heap.size wx w') := fun wx => turnsToSymmetric_any n v wx HT.out
    clear ht
    generalize resTurnsToSymmetric_1 n v = c at *
    generalize resTurnsToSymmetric_0 n v = l at *
    go_enter Tryd.func24, Tryd.ntmps24
    go_wp2_with fail
    refine (doorRow_yes n v 44 #[] l c _ HT.out (fun wx _ => HCL.out wx) (enters_of Tryd.func44 (by kernel_rfl) rfl)).mono ?_
    rintro e w1 ⟨u, rfl, ou, hb⟩
    have hL := chain (B := w.heap.size) (a := w) (by go_grown) (Nat.le_refl _) hb
    have hou := ou.mono (base' := w.heap.size) (by simp)
    clear hb ou
    go_wp2_with fail
    refine bodyPost_ret (v := .tuple #[u, .int .i64 c]) (by simp [results, Tryd.results24, go_sem, *]) rfl ?_
    exact ⟨u, rfl, hou, hL⟩
  · have ht : isTab n v = false := by simpa using ht
    have HT := Lib.hid ht
    have HR := Lib.hid (resTu_bad ht)
    clear ht
    have cg : (w.alloc (.cells #[.int .i64 n, .int .i64 v] 26)).cell? ⟨0, 0, none⟩ = some (errV a) := cell_later (by go_grown) hg
    have Hg := Lib.hid cg
    clear cg
    go_enter Tryd.func24, Tryd.ntmps24
    go_wp2_with fail
    refine (doorRow_no n v a 44 _ _ HT.out Hg.out).mono ?_
    rintro e w1 ⟨rfl, hb⟩
    have hL := chain (B := w.heap.size) (a := w) (by go_grown) (Nat.le_refl _) hb
    clear hb
    go_wp2_with fail
    refine bodyPost_ret (v := .tuple #[.slice none 0 0, .int .i64 1]) (by simp [results, Tryd.results24, go_sem, *]) rfl ?_
    exact ⟨_, by rw [HR.out.2], by rw [HR.out.1]; exact World.ownsRow_nil _ _ _ _, hL⟩

end Go.Proofs.YtapcblibokkhcaaDoor
