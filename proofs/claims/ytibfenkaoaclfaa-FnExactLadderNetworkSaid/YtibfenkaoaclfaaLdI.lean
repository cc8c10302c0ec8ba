/- LadderNetwork: the program's. -/
import Derived.Test.YtibfenkaoaclfaaLdN
namespace Go.Proofs.Ytibfenkaoaclfaa
open Go.RowKit
set_option linter.unusedVariables false

/-- a ladder within the sizes, and within the limits of a network -/
def ldOk (a b : Int) : Prop := (1 ≤ a ∧ a ≤ 12) ∧ (1 ≤ b ∧ b ≤ 12)
instance (a b : Int) : Decidable (ldOk a b) := by unfold ldOk; infer_instance
def ldIn (a b : Int) : Prop := 2 + (a - 1) * b ≤ 8 ∧ a * b ≤ 12
instance (a b : Int) : Decidable (ldIn a b) := by unfold ldIn; infer_instance
def resLadderNetwork_1 (a b : Int) : Int := if ldOk a b then (if ldIn a b then 0 else 3) else 2
def resLadderNetwork_0p (a b : Int) : Int := if ldOk a b ∧ ldIn a b then 2 + (a - 1) * b else 0
def resLadderNetwork_0 (a b : Int) : List (List Int) := if ldOk a b ∧ ldIn a b then sortL (ladCs a.toNat (b.toNat * a.toNat)) else []
theorem ld_no {a b : Int} (h : ¬ ldOk a b) : resLadderNetwork_1 a b = 2 ∧ resLadderNetwork_0p a b = 0 ∧ resLadderNetwork_0 a b = [] :=
  ⟨if_neg h, if_neg (fun h2 => h h2.1), if_neg (fun h2 => h h2.1)⟩
theorem ld_lim {a b : Int} (h : ldOk a b) (h2 : ¬ ldIn a b) : resLadderNetwork_1 a b = 3 ∧ resLadderNetwork_0p a b = 0 ∧ resLadderNetwork_0 a b = [] :=
  ⟨by unfold resLadderNetwork_1; rw [if_pos h, if_neg h2], if_neg (fun h3 => h2 h3.2), if_neg (fun h3 => h2 h3.2)⟩
theorem ld_yes {a b : Int} (h : ldOk a b) (h2 : ldIn a b) : resLadderNetwork_1 a b = 0 ∧ resLadderNetwork_0p a b = 2 + (a - 1) * b ∧ resLadderNetwork_0 a b = sortL (ladCs a.toNat (b.toNat * a.toNat)) :=
  ⟨by unfold resLadderNetwork_1; rw [if_pos h, if_pos h2], if_pos ⟨h, h2⟩, if_pos ⟨h, h2⟩⟩
/-- the points and contacts of a ladder, as natural numbers tell them -/
theorem ld_nat (a b : Nat) (h : 1 ≤ a) : 2 + ((a : Int) - 1) * (b : Int) = ((b * (a - 1) + 2 : Nat) : Int) ∧ (a : Int) * (b : Int) = ((b * a : Nat) : Int) := by
  obtain ⟨A, rfl⟩ : ∃ A, a = A + 1 := ⟨a - 1, by omega⟩
  rw [show ((A + 1 : Nat) : Int) - 1 = (A : Int) by omega, ← Int.natCast_mul, ← Int.natCast_mul, Nat.mul_comm A b, Nat.mul_comm (A + 1) b, Nat.add_sub_cancel]
  exact ⟨by omega, rfl⟩
theorem ld_size (a b : Nat) (h : a ≤ 12) (h2 : b ≤ 12) : b * (a - 1) + 2 ≤ 1000 ∧ b * a ≤ 1000 := by
  have h3 : b * (a - 1) ≤ 12 * 12 := Nat.mul_le_mul (by omega) (by omega)
  have h4 : b * a ≤ 12 * 12 := Nat.mul_le_mul (by omega) (by omega)
  omega

set_option maxRecDepth 100000 in
set_option maxHeartbeats 2000000 in
theorem iLadderNetwork_no (a b : Int) (w : World) (h : ¬ ldOk a b) :
    Calls Try.prog 23 #[.int .i64 a, .int .i64 b] w fun e w' => e = .returned (.tuple #[.agg #[.int .i64 0, .slice none 0 0], .int .i64 2]) ∧ Below w.heap.size w w' := by
  have hL : Below w.heap.size w (w.alloc (.cells #[.int .i64 0, .slice none 0 0] 37)) := (Below.refl _ w).alloc (Nat.le_refl _) _
  have ko := C2.here w (.int .i64 0) (.slice none 0 0) 37
  by_cases h1 : 1 ≤ a ∧ a ≤ 12
  · have H1 := Lib.hid (fun w => isSize_b a 12 w (decide_eq_true h1))
    have h2 : ¬ (1 ≤ b ∧ b ≤ 12) := fun h2 => h ⟨h1, h2⟩
    have H2 := Lib.hid (fun w => isSize_b b 12 w (decide_eq_false h2))
    clear h1 h2 h
    go_enter Try.func23, Try.ntmps23
    go_wp2_with (first | (go_at_call 47; (with_reducible refine (H1.out _).mono ?_); rintro e w' ⟨rfl, rfl⟩) | (go_at_call 47; (with_reducible refine (H2.out _).mono ?_); rintro e w' ⟨rfl, rfl⟩))
    refine bodyPost_ret (v := .tuple #[.agg #[.int .i64 0, .slice none 0 0], .int .i64 2]) (by simp [results, Try.results23, go_sem, *]) rfl ?_
    exact ⟨rfl, hL⟩
  · have H1 := Lib.hid (fun w => isSize_b a 12 w (decide_eq_false h1))
    clear h1 h
    go_enter Try.func23, Try.ntmps23
    go_wp2_with (go_at_call 47; (with_reducible refine (H1.out _).mono ?_); rintro e w' ⟨rfl, rfl⟩)
    refine bodyPost_ret (v := .tuple #[.agg #[.int .i64 0, .slice none 0 0], .int .i64 2]) (by simp [results, Try.results23, go_sem, *]) rfl ?_
    exact ⟨rfl, hL⟩

set_option maxRecDepth 100000 in
set_option maxHeartbeats 2000000 in
theorem iLadderNetwork_yes (a b : Nat) (w : World) (h : ldOk (a : Int) (b : Int)) (h2 : ldIn (a : Int) (b : Int)) :
    Calls Try.prog 23 #[.int .i64 (a : Int), .int .i64 (b : Int)] w fun e w' => ∃ sa sc, e = .returned (.tuple #[.agg #[.int .i64 ((b * (a - 1) + 2 : Nat) : Int), .slice sa (ladCs a (b * a)).length sc], .int .i64 0]) ∧ Own2 w' w.heap.size w'.heap.size (.slice sa (ladCs a (b * a)).length sc) (sortL (ladCs a (b * a))) ∧ Below w.heap.size w w' := by
  have hL : Below w.heap.size w (w.alloc (.cells #[.int .i64 0, .slice none 0 0] 37)) := (Below.refl _ w).alloc (Nat.le_refl _) _
  have ko := C2.here w (.int .i64 0) (.slice none 0 0) 37
  obtain ⟨⟨a1, a2⟩, b1, b2⟩ := h
  obtain ⟨m1, m2⟩ := h2
  obtain ⟨e1, e2⟩ := ld_nat a b (by omega)
  rw [e1] at m1
  rw [e2] at m2
  have H1 := Lib.hid (fun w => isSize_b a 12 w (decide_eq_true ⟨a1, a2⟩))
  have H2 := Lib.hid (fun w => isSize_b b 12 w (decide_eq_true ⟨b1, b2⟩))
  have HA : Hid (1 ≤ a ∧ a ≤ 12 ∧ b ≤ 12) := by unfold Hid; omega
  have HM : Hid ((((b * (a - 1) + 2 : Nat) : Int) ≤ 8) ∧ (ladCs a (b * a)).length ≤ 12) := ⟨m1, by rw [ladCs_len]; omega⟩
  have H4 := Lib.hid (ladCs_four a (b * a))
  generalize hp : ((b * (a - 1) + 2 : Nat) : Int) = p at *
  have HP := Lib.hid hp
  generalize hC : ladCs a (b * a) = L at *
  have HC := Lib.hid hC
  clear e1 e2 a1 a2 b1 b2 hp hC m1 m2
  go_enter Try.func23, Try.ntmps23
  go_wp2_with (first | (go_at_call 47; (with_reducible refine (H1.out _).mono ?_); rintro e w' ⟨rfl, rfl⟩) | (go_at_call 47; (with_reducible refine (H2.out _).mono ?_); rintro e w' ⟨rfl, rfl⟩))
  refine (ladder_any a b _ HA.out.1 HA.out.2.1 HA.out.2.2).mono ?_
  rintro e w1 ⟨u, rfl, o, hb⟩
  rw [HP.out, HC.out.symm.symm] at *
  replace ko := keepAt hb ko
  have hL1 := chain (B := w.heap.size) (a := w) hL (Nat.le_refl _) hb
  have hs1 := hb.size
  rw [World.size_alloc] at o hs1
  have HO := Lib.hid o
  clear o hb hL
  go_wp2_with fail
  refine (limits_ok p u L (w.heap.size + 1) _ HM.out.1 HM.out.2 H4.out hs1 HO.out).mono ?_
  rintro e w2 ⟨sa, sc, rfl, hW, hb⟩
  have ko1 := C2.lowB ko hb (Nat.lt_succ_self _)
  have hs2 := hb.size
  have HF := Lib.hid (((hW.setCell ⟨w.heap.size, 0, none⟩ (.int .i64 p) (by simp; omega)).setCell ⟨w.heap.size, 1, none⟩ (.slice sa L.length sc) (by simp; omega)).wide (show w.heap.size ≤ w1.heap.size by omega) (show w2.heap.size ≤ (((w2.setCell ⟨w.heap.size, 0, none⟩ (.int .i64 p)).setCell ⟨w.heap.size, 1, none⟩ (.slice sa L.length sc))).heap.size by rw [World.size_setCell, World.size_setCell]; exact Nat.le_refl _))
  have ko2 := (ko1.put0 (.int .i64 p)).put1 (.slice sa L.length sc)
  have hL2 := Below.trans hL1 (Below.mono hb (Nat.le_succ _))
  have hL3 := (hL2.setCell (p := ⟨w.heap.size, 0, none⟩) (Nat.le_refl _) (.int .i64 p)).setCell (p := ⟨w.heap.size, 1, none⟩) (Nat.le_refl _) (.slice sa L.length sc)
  clear hW hb hL1 hL2
  go_wp2_with fail
  refine bodyPost_ret (v := .tuple #[.agg #[.int .i64 p, .slice sa L.length sc], .int .i64 0]) (by simp [results, Try.results23, go_sem, *]) rfl ?_
  exact ⟨sa, sc, rfl, HF.out, hL3⟩

set_option maxRecDepth 100000 in
set_option maxHeartbeats 2000000 in
theorem iLadderNetwork_lim (a b : Nat) (w : World) (h : ldOk (a : Int) (b : Int)) (h2 : ¬ ldIn (a : Int) (b : Int)) :
    Calls Try.prog 23 #[.int .i64 (a : Int), .int .i64 (b : Int)] w fun e w' => e = .returned (.tuple #[.agg #[.int .i64 0, .slice none 0 0], .int .i64 3]) ∧ Below w.heap.size w w' := by
  have hL : Below w.heap.size w (w.alloc (.cells #[.int .i64 0, .slice none 0 0] 37)) := (Below.refl _ w).alloc (Nat.le_refl _) _
  have ko := C2.here w (.int .i64 0) (.slice none 0 0) 37
  obtain ⟨⟨a1, a2⟩, b1, b2⟩ := h
  obtain ⟨e1, e2⟩ := ld_nat a b (by omega)
  unfold ldIn at h2
  rw [e1, e2] at h2
  have H1 := Lib.hid (fun w => isSize_b a 12 w (decide_eq_true ⟨a1, a2⟩))
  have H2 := Lib.hid (fun w => isSize_b b 12 w (decide_eq_true ⟨b1, b2⟩))
  have HA : Hid (1 ≤ a ∧ a ≤ 12 ∧ b ≤ 12) := by unfold Hid; omega
  have HM : Hid (8 < ((b * (a - 1) + 2 : Nat) : Int) ∨ 12 < (ladCs a (b * a)).length) := by rw [Hid, ladCs_len]; omega
  generalize hp : ((b * (a - 1) + 2 : Nat) : Int) = p at *
  have HP := Lib.hid hp
  generalize hC : ladCs a (b * a) = L at *
  have HC := Lib.hid hC
  clear e1 e2 a1 a2 b1 b2 hp hC h2
  go_enter Try.func23, Try.ntmps23
  go_wp2_with (first | (go_at_call 47; (with_reducible refine (H1.out _).mono ?_); rintro e w' ⟨rfl, rfl⟩) | (go_at_call 47; (with_reducible refine (H2.out _).mono ?_); rintro e w' ⟨rfl, rfl⟩))
  refine (ladder_any a b _ HA.out.1 HA.out.2.1 HA.out.2.2).mono ?_
  rintro e w1 ⟨u, rfl, o, hb⟩
  rw [HP.out, HC.out.symm.symm] at *
  replace ko := keepAt hb ko
  have hL1 := chain (B := w.heap.size) (a := w) hL (Nat.le_refl _) hb
  have hs1 := hb.size
  rw [World.size_alloc] at o hs1
  have HO := Lib.hid o
  clear o hb hL
  go_wp2_with fail
  refine (limits_no p u L (w.heap.size + 1) _ hs1 HO.out HM.out).mono ?_
  rintro e w2 ⟨rfl, hb⟩
  have ko1 := C2.lowB ko hb (Nat.lt_succ_self _)
  have ko2 := (ko1.put0 (.int .i64 0)).put1 (.slice none 0 0)
  have hL2 := Below.trans hL1 (Below.mono hb (Nat.le_succ _))
  have hL3 := (hL2.setCell (p := ⟨w.heap.size, 0, none⟩) (Nat.le_refl _) (.int .i64 0)).setCell (p := ⟨w.heap.size, 1, none⟩) (Nat.le_refl _) (.slice none 0 0)
  clear hb hL1 hL2
  go_wp2_with fail
  refine bodyPost_ret (v := .tuple #[.agg #[.int .i64 0, .slice none 0 0], .int .i64 3]) (by simp [results, Try.results23, go_sem, *]) rfl ?_
  exact ⟨rfl, hL3⟩

theorem iLadderNetwork_any (a b : Int) (w : World) :
    Calls Try.prog 23 #[.int .i64 a, .int .i64 b] w fun e w' => ∃ sa sc, e = .returned (.tuple #[.agg #[.int .i64 (resLadderNetwork_0p a b), .slice sa (resLadderNetwork_0 a b).length sc], .int .i64 (resLadderNetwork_1 a b)]) ∧ Own2 w' w.heap.size w'.heap.size (.slice sa (resLadderNetwork_0 a b).length sc) (resLadderNetwork_0 a b) ∧ Below w.heap.size w w' := by
  by_cases h : ldOk a b
  · obtain ⟨A, rfl⟩ := Int.eq_ofNat_of_zero_le (show 0 ≤ a from Int.le_trans (by decide) h.1.1)
    obtain ⟨B, rfl⟩ := Int.eq_ofNat_of_zero_le (show 0 ≤ b from Int.le_trans (by decide) h.2.1)
    by_cases h2 : ldIn (A : Int) (B : Int)
    · obtain ⟨e1, e2, e3⟩ := ld_yes h h2
      rw [e1, e2, e3, (ld_nat A B (by have := h.1.1; omega)).1, Int.toNat_natCast, Int.toNat_natCast, sortL_len]
      exact iLadderNetwork_yes A B w h h2
    · obtain ⟨e1, e2, e3⟩ := ld_lim h h2
      rw [e1, e2, e3]
      exact (iLadderNetwork_lim A B w h h2).mono fun e w' h => ⟨none, 0, h.1, own2_nil _ _ _, h.2⟩
  · obtain ⟨e1, e2, e3⟩ := ld_no h
    rw [e1, e2, e3]
    exact (iLadderNetwork_no a b w h).mono fun e w' h => ⟨none, 0, h.1, own2_nil _ _ _, h.2⟩

end Go.Proofs.Ytibfenkaoaclfaa
