/- InputGroups: both contracts. -/
import Derived.Test.YtapcblibokkhcaaDoorIgS
import Derived.Test.YtapcblibokkhcaaDoorDoorG
import Derived.Test.YtapcblibokkhcaaDoorSyI
namespace Go.Proofs.YtapcblibokkhcaaDoor
open Go.RowKit
set_option linter.unusedVariables false

theorem lenInputGroups_0 (n v : Int) : (resInputGroups_0 n v).length ≤ 100000 ∧ (resInputGroups_0 n v).length + sumLen (resInputGroups_0 n v) (resInputGroups_0 n v).length ≤ 1000000 ∧ ∀ i, i < (resInputGroups_0 n v).length → ((resInputGroups_0 n v).getD i []).length ≤ 1048576 := by
  have key : ∀ (xss : List (List Int)), xss.length ≤ 5 → (∀ i, i < xss.length → (xss.getD i []).length ≤ 5) → xss.length ≤ 100000 ∧ xss.length + sumLen xss xss.length ≤ 1000000 ∧ ∀ i, i < xss.length → (xss.getD i []).length ≤ 1048576 := by
    intro xss h1 h2
    have h3 : ∀ k, k ≤ xss.length → sumLen xss k ≤ 5 * k := by
      intro k
      induction k with
      | zero => intro _; simp [sumLen]
      | succ k ih =>
        intro hk
        have := ih (by omega)
        have := h2 k (by omega)
        simp only [sumLen]; omega
    have := h3 xss.length (Nat.le_refl _)
    exact ⟨by omega, by omega, fun i hi => by have := h2 i hi; omega⟩
  apply key
  · unfold resInputGroups_0
    split
    · rename_i h
      obtain ⟨n1, n5, _, _⟩ := isTab_out h
      rw [grps_len]
      have := lstL_len (alB v n.toNat) n.toNat
      omega
    · simp
  · unfold resInputGroups_0
    split
    · rename_i h
      obtain ⟨n1, n5, _, _⟩ := isTab_out h
      intro i hi
      rw [grps_len] at hi
      rw [grps_at hi]
      have := rowG_len (alB v n.toNat) n.toNat ((lstL (alB v n.toNat) n.toNat).getD i 0)
      omega
    · intro i hi; simp at hi

theorem sInputGroups_any (n v : Int) (w : World) :
    Calls Tryd.prog 18 #[.agg #[.int .i64 n, .int .i64 v]] w fun e w' => ∃ u, e = .returned (.tuple #[u, .int .i64 (resInputGroups_1 n v)]) ∧ Reads2 w' u (resInputGroups_0 n v) ∧ Below w.heap.size w w' := by
  by_cases ht : isTab n v = true
  · have h0 : resInputGroups_0 n v = grps (alB v n.toNat) n.toNat := if_pos ht
    have h1 : resInputGroups_1 n v = 0 := if_pos ht
    rw [h0, h1]
    refine (groupsS_any n v w ht).mono ?_
    rintro e w' ⟨u, rfl, ou, hb⟩
    exact ⟨u, rfl, ou.reads, hb⟩
  · have h0 : resInputGroups_0 n v = [] := if_neg ht
    have h1 : resInputGroups_1 n v = 1 := if_neg ht
    have ht : isTab n v = false := by simpa using ht
    have HT := Lib.hid ht
    rw [h0, h1]
    have k0 : C2 (w.alloc (.cells #[.int .i64 n, .int .i64 v] 26)) (w.heap.size) (.int .i64 n) (.int .i64 v) := by simpa using C2.here w (.int .i64 n) (.int .i64 v) 26
    clear ht h0 h1
    go_enter Tryd.func18, Tryd.ntmps18
    go_wp2_with ((go_at_call 25; (with_reducible refine (l01Is_b _ _ _ HT.out).mono ?_); rintro e w' ⟨rfl, hb⟩; have hL := chain (B := w.heap.size) (a := w) (by go_grown) (Nat.le_refl _) hb; (first | replace k0 := keepAt hb k0 | replace k0 := keepAt hb (C2.alloc k0 _)); clear hb))
    go_ret2
    exact ⟨_, rfl, ⟨none, 0, rfl, by simp, .inl rfl⟩, hL⟩

theorem groupsClosure_any (n v : Int) (w : World) (ht : isTab n v = true) :
    Calls Tryd.prog 40 #[.agg #[.int .i64 n, .int .i64 v]] w fun e w' => ∃ u, e = .returned (.tuple #[u, .int .i64 0]) ∧ Own2 w' w.heap.size w'.heap.size u (grps (alB v n.toNat) n.toNat) ∧ Below w.heap.size w w' := by
  obtain ⟨n1, n5, h0, hv⟩ := tab_bd ht
  obtain ⟨N, rfl⟩ := Int.eq_ofNat_of_zero_le (show 0 ≤ n by omega)
  rw [Int.toNat_natCast]
  have HC := Lib.hid (fun w => groupsOf_any v N w (by omega) (by omega) h0 hv)
  have k0 := C2.here w (.int .i64 (N : Int)) (.int .i64 v) 26
  clear ht
  generalize grps (alB v N) N = G at *
  go_enter Tryd.func40, Tryd.ntmps40
  go_wp2_with (go_at_call 41; (with_reducible refine (HC.out _).mono ?_); rintro e w1 ⟨u, rfl, ou, hb⟩; have hL := chain (B := w.heap.size) (a := w) (by go_grown) (Nat.le_refl _) hb)
  go_ret2
  exact ⟨u, rfl, ou.mono (by simp) (Nat.le_refl _), hL⟩

set_option maxRecDepth 100000 in
set_option maxHeartbeats 1000000 in
theorem iInputGroups_any (n v : Int) (a : Addr) (w : World) (hg : w.cell? ⟨0, 0, none⟩ = some (errV a)) :
    Calls Tryd.prog 19 #[.agg #[.int .i64 n, .int .i64 v]] w fun e w' => ∃ u, e = .returned (.tuple #[u, .int .i64 (resInputGroups_1 n v)]) ∧ Own2 w' w.heap.size w'.heap.size u (resInputGroups_0 n v) ∧ Below w.heap.size w w' := by
  by_cases ht : isTab n v = true
  · have HT := Lib.hid ht
    have h0 : resInputGroups_0 n v = grps (alB v n.toNat) n.toNat := if_pos ht
    have h1 : resInputGroups_1 n v = 0 := if_pos ht
    rw [h0, h1]
    have HCL : Hid (∀ wx : World, Calls Tryd.prog 40 #[.agg #[.int .i64 n, .int .i64 v]] wx fun e w' => ∃ u, e = .returned (.tuple #[u, .int .i64 0]) ∧ Own2 w' wx.heap.size w'.heap.size u (grps (alB v n.toNat) n.toNat) ∧ Below wx.heap.size wx w') := fun wx => groupsClosure_any n v wx HT.out
    clear ht h0 h1
    generalize grps (alB v n.toNat) n.toNat = l at *
    go_enter Tryd.func19, Tryd.ntmps19
    go_wp2_with fail
    refine (doorRows_yes n v 40 #[] l 0 _ HT.out (fun wx _ => HCL.out wx) (enters_of Tryd.func40 (by kernel_rfl) rfl)).mono ?_
    rintro e w1 ⟨u, rfl, ou, hb⟩
    have hL := chain (B := w.heap.size) (a := w) (by go_grown) (Nat.le_refl _) hb
    have hou := ou.mono (B' := w.heap.size) (by simp) (Nat.le_refl _)
    clear hb ou
    go_wp2_with fail
    refine bodyPost_ret (v := .tuple #[u, .int .i64 0]) (by simp [results, Tryd.results19, go_sem, *]) rfl ?_
    exact ⟨u, rfl, hou, hL⟩
  · have h0 : resInputGroups_0 n v = [] := if_neg ht
    have h1 : resInputGroups_1 n v = 1 := if_neg ht
    have ht : isTab n v = false := by simpa using ht
    have HT := Lib.hid ht
    rw [h0, h1]
    clear ht h0 h1
    have cg : (w.alloc (.cells #[.int .i64 n, .int .i64 v] 26)).cell? ⟨0, 0, none⟩ = some (errV a) := cell_later (by go_grown) hg
    have Hg := Lib.hid cg
    clear cg
    go_enter Tryd.func19, Tryd.ntmps19
    go_wp2_with fail
    refine (doorRows_no n v a 40 _ _ HT.out Hg.out).mono ?_
    rintro e w1 ⟨rfl, hb⟩
    have hL := chain (B := w.heap.size) (a := w) (by go_grown) (Nat.le_refl _) hb
    clear hb
    go_wp2_with fail
    refine bodyPost_ret (v := .tuple #[.slice none 0 0, .int .i64 1]) (by simp [results, Tryd.results19, go_sem, *]) rfl ?_
    exact ⟨_, rfl, ⟨fun _ => .slice none 0 0, World.ownsRow_nil _ _ _ _, (fun k e => by cases e), (fun i hi => by simp at hi)⟩, hL⟩

end Go.Proofs.YtapcblibokkhcaaDoor
