/- Prime patterns: the program's isPrime. -/
import Derived.Test.YtohmhiodmaahfaaDoorPatP
import Derived.Test.YtohmhiodmaahfaaDoorPrM
namespace Go.Proofs.YtohmhiodmaahfaaDoor
open Go.RowKit
set_option linter.unusedVariables false

theorem C5.set {w : World} {b : Nat} {x0 x1 x2 x3 x4 : Value} (h : C5 w b x0 x1 x2 x3 x4) (g i : Nat) (v : Value) (hg : b ≠ g) : C5 (w.setCell ⟨g, i, none⟩ v) b x0 x1 x2 x3 x4 := by
  obtain ⟨⟨h0, h1, h2, h3, h4⟩, hz⟩ := h
  have e := Below.heap_setCell w ⟨g, i, none⟩ v b hg
  exact ⟨⟨(World.cell?_of_block (w := w) e).trans h0, (World.cell?_of_block (w := w) e).trans h1, (World.cell?_of_block (w := w) e).trans h2, (World.cell?_of_block (w := w) e).trans h3, (World.cell?_of_block (w := w) e).trans h4⟩, by rw [World.size_setCell]; exact hz⟩
theorem wide_byte {f : Nat → Int} (hf : ByteF f) (i : Nat) : ByteF (wide f i) := fun j => by
  unfold wide; split
  · omega
  · exact hf j

set_option maxRecDepth 100000 in
set_option maxHeartbeats 8000000 in
theorem isPrime_any (n v : Int) (f : Nat → Int) (hf : ByteF f) (w : World) (n1 : 1 ≤ n) (n5 : n ≤ 5) (v0 : 0 ≤ v) (v1 : v < 9223372036854775808) :
    Calls Tryd.prog 78 #[.agg #[.int .i64 n, .int .i64 v], patA f] w fun e w' => e = .returned (.bool (primF v f (2 ^ n.toNat))) ∧ Below w.heap.size w w' := by
  have HI := Lib.hid (fun w => isImplied_any n v f hf w n1 n5 v0 v1)
  have HW0 := Lib.hid (fun w => isImplied_any n v (wide f 0) (wide_byte hf 0) w n1 n5 v0 v1)
  have HW1 := Lib.hid (fun w => isImplied_any n v (wide f 1) (wide_byte hf 1) w n1 n5 v0 v1)
  have HW2 := Lib.hid (fun w => isImplied_any n v (wide f 2) (wide_byte hf 2) w n1 n5 v0 v1)
  have HW3 := Lib.hid (fun w => isImplied_any n v (wide f 3) (wide_byte hf 3) w n1 n5 v0 v1)
  have HW4 := Lib.hid (fun w => isImplied_any n v (wide f 4) (wide_byte hf 4) w n1 n5 v0 v1)
  have HY := Lib.hid (fun (h : impF v f (2 ^ n.toNat) = true ∧ ∀ i, i < 5 → f i = 45 ∨ impF v (wide f i) (2 ^ n.toNat) = false) => primF_iff.2 h)
  have HN := Lib.hid (fun (j : Nat) (hj : j < 5) (h1 : f j ≠ 45) (h2 : impF v (wide f j) (2 ^ n.toNat) = true) => primF_no (v := v) (f := f) (k := 2 ^ n.toNat) hj h1 h2)
  have HF : Hid (impF v f (2 ^ n.toNat) = false → primF v f (2 ^ n.toNat) = false) := fun h => by
    cases hp : primF v f (2 ^ n.toNat)
    · rfl
    · rw [(primF_iff.1 hp).1] at h; cases h
  clear n1 n5 v0 v1
  generalize 2 ^ n.toNat = M at *
  unfold patA at HI HW0 HW1 HW2 HW3 HW4 ⊢
  have bx0 := hf 0
  have bx1 := hf 1
  have bx2 := hf 2
  have bx3 := hf 3
  have bx4 := hf 4
  obtain ⟨x0, hx0⟩ : ∃ x, f 0 = x := ⟨_, rfl⟩
  obtain ⟨x1, hx1⟩ : ∃ x, f 1 = x := ⟨_, rfl⟩
  obtain ⟨x2, hx2⟩ : ∃ x, f 2 = x := ⟨_, rfl⟩
  obtain ⟨x3, hx3⟩ : ∃ x, f 3 = x := ⟨_, rfl⟩
  obtain ⟨x4, hx4⟩ : ∃ x, f 4 = x := ⟨_, rfl⟩
  have HV0 : Hid (∀ w, Calls Tryd.prog 40 #[.agg #[.int .i64 n, .int .i64 v], .agg #[.int .u8 45, .int .u8 x1, .int .u8 x2, .int .u8 x3, .int .u8 x4]] w fun e w' => e = .returned (.bool (impF v (wide f 0) M)) ∧ Below w.heap.size w w') := fun w => by
    have := HW0.out w
    rw [show wide f 0 0 = 45 from rfl, show wide f 0 1 = x1 from hx1, show wide f 0 2 = x2 from hx2, show wide f 0 3 = x3 from hx3, show wide f 0 4 = x4 from hx4] at this
    exact this
  have HV1 : Hid (∀ w, Calls Tryd.prog 40 #[.agg #[.int .i64 n, .int .i64 v], .agg #[.int .u8 x0, .int .u8 45, .int .u8 x2, .int .u8 x3, .int .u8 x4]] w fun e w' => e = .returned (.bool (impF v (wide f 1) M)) ∧ Below w.heap.size w w') := fun w => by
    have := HW1.out w
    rw [show wide f 1 0 = x0 from hx0, show wide f 1 1 = 45 from rfl, show wide f 1 2 = x2 from hx2, show wide f 1 3 = x3 from hx3, show wide f 1 4 = x4 from hx4] at this
    exact this
  have HV2 : Hid (∀ w, Calls Tryd.prog 40 #[.agg #[.int .i64 n, .int .i64 v], .agg #[.int .u8 x0, .int .u8 x1, .int .u8 45, .int .u8 x3, .int .u8 x4]] w fun e w' => e = .returned (.bool (impF v (wide f 2) M)) ∧ Below w.heap.size w w') := fun w => by
    have := HW2.out w
    rw [show wide f 2 0 = x0 from hx0, show wide f 2 1 = x1 from hx1, show wide f 2 2 = 45 from rfl, show wide f 2 3 = x3 from hx3, show wide f 2 4 = x4 from hx4] at this
    exact this
  have HV3 : Hid (∀ w, Calls Tryd.prog 40 #[.agg #[.int .i64 n, .int .i64 v], .agg #[.int .u8 x0, .int .u8 x1, .int .u8 x2, .int .u8 45, .int .u8 x4]] w fun e w' => e = .returned (.bool (impF v (wide f 3) M)) ∧ Below w.heap.size w w') := fun w => by
    have := HW3.out w
    rw [show wide f 3 0 = x0 from hx0, show wide f 3 1 = x1 from hx1, show wide f 3 2 = x2 from hx2, show wide f 3 3 = 45 from rfl, show wide f 3 4 = x4 from hx4] at this
    exact this
  have HV4 : Hid (∀ w, Calls Tryd.prog 40 #[.agg #[.int .i64 n, .int .i64 v], .agg #[.int .u8 x0, .int .u8 x1, .int .u8 x2, .int .u8 x3, .int .u8 45]] w fun e w' => e = .returned (.bool (impF v (wide f 4) M)) ∧ Below w.heap.size w w') := fun w => by
    have := HW4.out w
    rw [show wide f 4 0 = x0 from hx0, show wide f 4 1 = x1 from hx1, show wide f 4 2 = x2 from hx2, show wide f 4 3 = x3 from hx3, show wide f 4 4 = 45 from rfl] at this
    exact this
  rw [hx0, hx1, hx2, hx3, hx4] at HI
  rw [hx0, hx1, hx2, hx3, hx4]
  rw [hx0] at bx0
  have Hf0 := Lib.hid hx0
  rw [hx1] at bx1
  have Hf1 := Lib.hid hx1
  rw [hx2] at bx2
  have Hf2 := Lib.hid hx2
  rw [hx3] at bx3
  have Hf3 := Lib.hid hx3
  rw [hx4] at bx4
  have Hf4 := Lib.hid hx4
  clear hx0 hx1 hx2 hx3 hx4 hf HW0 HW1 HW2 HW3 HW4
  have hi0 : ∀ w : World, (Instr.index 62 (.agg #[.int .u8 x0, .int .u8 x1, .int .u8 x2, .int .u8 x3, .int .u8 x4]) (.int .i64 0)).run Tryd.prog w = .ok (.int .u8 x0) w := fun _ => by kernel_rfl
  have hi1 : ∀ w : World, (Instr.index 62 (.agg #[.int .u8 x0, .int .u8 x1, .int .u8 x2, .int .u8 x3, .int .u8 x4]) (.int .i64 1)).run Tryd.prog w = .ok (.int .u8 x1) w := fun _ => by kernel_rfl
  have hi2 : ∀ w : World, (Instr.index 62 (.agg #[.int .u8 x0, .int .u8 x1, .int .u8 x2, .int .u8 x3, .int .u8 x4]) (.int .i64 2)).run Tryd.prog w = .ok (.int .u8 x2) w := fun _ => by kernel_rfl
  have hi3 : ∀ w : World, (Instr.index 62 (.agg #[.int .u8 x0, .int .u8 x1, .int .u8 x2, .int .u8 x3, .int .u8 x4]) (.int .i64 3)).run Tryd.prog w = .ok (.int .u8 x3) w := fun _ => by kernel_rfl
  have hi4 : ∀ w : World, (Instr.index 62 (.agg #[.int .u8 x0, .int .u8 x1, .int .u8 x2, .int .u8 x3, .int .u8 x4]) (.int .i64 4)).run Tryd.prog w = .ok (.int .u8 x4) w := fun _ => by kernel_rfl
  have k0 := (C2.here w (.int .i64 n) (.int .i64 v) 29).alloc (.cells #[.int .u8 x0, .int .u8 x1, .int .u8 x2, .int .u8 x3, .int .u8 x4] 62)
  have k5 : C5 ((w.alloc (.cells #[.int .i64 n, .int .i64 v] 29)).alloc (.cells #[.int .u8 x0, .int .u8 x1, .int .u8 x2, .int .u8 x3, .int .u8 x4] 62)) (w.heap.size + 1) (.int .u8 x0) (.int .u8 x1) (.int .u8 x2) (.int .u8 x3) (.int .u8 x4) := by simpa using C5.here (w.alloc (.cells #[.int .i64 n, .int .i64 v] 29)) (.int .u8 x0) (.int .u8 x1) (.int .u8 x2) (.int .u8 x3) (.int .u8 x4) 62
  have hL0 : Below w.heap.size w ((w.alloc (.cells #[.int .i64 n, .int .i64 v] 29)).alloc (.cells #[.int .u8 x0, .int .u8 x1, .int .u8 x2, .int .u8 x3, .int .u8 x4] 62)) := by go_grown
  go_enter Tryd.func78, Tryd.ntmps78
  go_wp2_with fail
  go_loopw [9] (fun c wr => ∃ k : Nat, k ≤ 5 ∧ c = .int .i64 (k : Int) ∧ Hid (∀ i, i < k → f i = 45 ∨ impF v (wide f i) M = false) ∧ Below w.heap.size w wr ∧ C2 wr w.heap.size (.int .i64 n) (.int .i64 v) ∧ C5 wr (w.heap.size + 1) (.int .u8 x0) (.int .u8 x1) (.int .u8 x2) (.int .u8 x3) (.int .u8 x4)) (fun c _ => 5 - (intOf c).toNat)
  case atStart => exact ⟨0, by omega, rfl, fun i hi => absurd hi (by omega), hL0, k0, k5⟩
  case round =>
    clear hL0 k0 k5
    obtain ⟨k, hk, rfl, HA, hL, k0, k5⟩ := hrel
    have hkz := k5.2
    rcases (show k = 0 ∨ k = 1 ∨ k = 2 ∨ k = 3 ∨ k = 4 ∨ k = 5 by omega) with rfl | rfl | rfl | rfl | rfl | rfl
    · have HS : Hid ((f 0 = 45 ∨ impF v (wide f 0) M = false) → ∀ i, i < 0 + 1 → f i = 45 ∨ impF v (wide f i) M = false) := fun h i hi => by
        by_cases e : i = 0
        · subst e; exact h
        · exact HA.out i (by omega)
      have HNo := Lib.hid (HN.out 0 (by omega))
      have HVk := HV0
      have Hfk := Hf0
      clear HI HN HY HF HA HV0 HV1 HV2 HV3 HV4 Hf0 Hf1 Hf2 Hf3 Hf4
      by_cases h45 : x0 = 45
      · have hq : (x0 != 45) = false := by rw [h45]; rfl
        have HT := Lib.hid (HS.out (.inl (by rw [Hfk.out, h45])))
        clear HS HNo HVk h45
        go_wp2_with fail
        exact ⟨⟨1, by omega, by go_num, HT.out, by go_grown, k0.alloc _, k5.alloc _⟩, by decide⟩
      · have hq : (x0 != 45) = true := by simpa using h45
        cases hb : impF v (wide f 0) M
        · have HT := Lib.hid (HS.out (.inr hb))
          rw [hb] at HVk
          clear HS HNo h45 hb
          go_wp2_with (go_at_call 40; (with_reducible refine (HVk.out _).mono ?_); rintro e w2 ⟨rfl, hb⟩; replace hL := chain (B := w.heap.size) (a := w) (by go_grown) (Nat.le_refl _) hb; replace k0 := keepAt hb (k0.alloc _); replace k5 := keepAt5 hb (k5.alloc _); clear hb)
          exact ⟨⟨1, by omega, by go_num, HT.out, hL, k0, k5⟩, by decide⟩
        · have HT := Lib.hid (HNo.out (by rw [Hfk.out]; exact h45) hb)
          rw [hb] at HVk
          clear HS HNo h45 hb
          go_wp2_with (go_at_call 40; (with_reducible refine (HVk.out _).mono ?_); rintro e w2 ⟨rfl, hb⟩; replace hL := chain (B := w.heap.size) (a := w) (by go_grown) (Nat.le_refl _) hb; clear hb)
          go_ret
          exact ⟨by rw [HT.out]; rfl, hL⟩
    · have HS : Hid ((f 1 = 45 ∨ impF v (wide f 1) M = false) → ∀ i, i < 1 + 1 → f i = 45 ∨ impF v (wide f i) M = false) := fun h i hi => by
        by_cases e : i = 1
        · subst e; exact h
        · exact HA.out i (by omega)
      have HNo := Lib.hid (HN.out 1 (by omega))
      have HVk := HV1
      have Hfk := Hf1
      clear HI HN HY HF HA HV0 HV1 HV2 HV3 HV4 Hf0 Hf1 Hf2 Hf3 Hf4
      by_cases h45 : x1 = 45
      · have hq : (x1 != 45) = false := by rw [h45]; rfl
        have HT := Lib.hid (HS.out (.inl (by rw [Hfk.out, h45])))
        clear HS HNo HVk h45
        go_wp2_with fail
        exact ⟨⟨2, by omega, by go_num, HT.out, by go_grown, k0.alloc _, k5.alloc _⟩, by decide⟩
      · have hq : (x1 != 45) = true := by simpa using h45
        cases hb : impF v (wide f 1) M
        · have HT := Lib.hid (HS.out (.inr hb))
          rw [hb] at HVk
          clear HS HNo h45 hb
          go_wp2_with (go_at_call 40; (with_reducible refine (HVk.out _).mono ?_); rintro e w2 ⟨rfl, hb⟩; replace hL := chain (B := w.heap.size) (a := w) (by go_grown) (Nat.le_refl _) hb; replace k0 := keepAt hb (k0.alloc _); replace k5 := keepAt5 hb (k5.alloc _); clear hb)
          exact ⟨⟨2, by omega, by go_num, HT.out, hL, k0, k5⟩, by decide⟩
        · have HT := Lib.hid (HNo.out (by rw [Hfk.out]; exact h45) hb)
          rw [hb] at HVk
          clear HS HNo h45 hb
          go_wp2_with (go_at_call 40; (with_reducible refine (HVk.out _).mono ?_); rintro e w2 ⟨rfl, hb⟩; replace hL := chain (B := w.heap.size) (a := w) (by go_grown) (Nat.le_refl _) hb; clear hb)
          go_ret
          exact ⟨by rw [HT.out]; rfl, hL⟩
    · have HS : Hid ((f 2 = 45 ∨ impF v (wide f 2) M = false) → ∀ i, i < 2 + 1 → f i = 45 ∨ impF v (wide f i) M = false) := fun h i hi => by
        by_cases e : i = 2
        · subst e; exact h
        · exact HA.out i (by omega)
      have HNo := Lib.hid (HN.out 2 (by omega))
      have HVk := HV2
      have Hfk := Hf2
      clear HI HN HY HF HA HV0 HV1 HV2 HV3 HV4 Hf0 Hf1 Hf2 Hf3 Hf4
      by_cases h45 : x2 = 45
      · have hq : (x2 != 45) = false := by rw [h45]; rfl
        have HT := Lib.hid (HS.out (.inl (by rw [Hfk.out, h45])))
        clear HS HNo HVk h45
        go_wp2_with fail
        exact ⟨⟨3, by omega, by go_num, HT.out, by go_grown, k0.alloc _, k5.alloc _⟩, by decide⟩
      · have hq : (x2 != 45) = true := by simpa using h45
        cases hb : impF v (wide f 2) M
        · have HT := Lib.hid (HS.out (.inr hb))
          rw [hb] at HVk
          clear HS HNo h45 hb
          go_wp2_with (go_at_call 40; (with_reducible refine (HVk.out _).mono ?_); rintro e w2 ⟨rfl, hb⟩; replace hL := chain (B := w.heap.size) (a := w) (by go_grown) (Nat.le_refl _) hb; replace k0 := keepAt hb (k0.alloc _); replace k5 := keepAt5 hb (k5.alloc _); clear hb)
          exact ⟨⟨3, by omega, by go_num, HT.out, hL, k0, k5⟩, by decide⟩
        · have HT := Lib.hid (HNo.out (by rw [Hfk.out]; exact h45) hb)
          rw [hb] at HVk
          clear HS HNo h45 hb
          go_wp2_with (go_at_call 40; (with_reducible refine (HVk.out _).mono ?_); rintro e w2 ⟨rfl, hb⟩; replace hL := chain (B := w.heap.size) (a := w) (by go_grown) (Nat.le_refl _) hb; clear hb)
          go_ret
          exact ⟨by rw [HT.out]; rfl, hL⟩
    · have HS : Hid ((f 3 = 45 ∨ impF v (wide f 3) M = false) → ∀ i, i < 3 + 1 → f i = 45 ∨ impF v (wide f i) M = false) := fun h i hi => by
        by_cases e : i = 3
        · subst e; exact h
        · exact HA.out i (by omega)
      have HNo := Lib.hid (HN.out 3 (by omega))
      have HVk := HV3
      have Hfk := Hf3
      clear HI HN HY HF HA HV0 HV1 HV2 HV3 HV4 Hf0 Hf1 Hf2 Hf3 Hf4
      by_cases h45 : x3 = 45
      · have hq : (x3 != 45) = false := by rw [h45]; rfl
        have HT := Lib.hid (HS.out (.inl (by rw [Hfk.out, h45])))
        clear HS HNo HVk h45
        go_wp2_with fail
        exact ⟨⟨4, by omega, by go_num, HT.out, by go_grown, k0.alloc _, k5.alloc _⟩, by decide⟩
      · have hq : (x3 != 45) = true := by simpa using h45
        cases hb : impF v (wide f 3) M
        · have HT := Lib.hid (HS.out (.inr hb))
          rw [hb] at HVk
          clear HS HNo h45 hb
          go_wp2_with (go_at_call 40; (with_reducible refine (HVk.out _).mono ?_); rintro e w2 ⟨rfl, hb⟩; replace hL := chain (B := w.heap.size) (a := w) (by go_grown) (Nat.le_refl _) hb; replace k0 := keepAt hb (k0.alloc _); replace k5 := keepAt5 hb (k5.alloc _); clear hb)
          exact ⟨⟨4, by omega, by go_num, HT.out, hL, k0, k5⟩, by decide⟩
        · have HT := Lib.hid (HNo.out (by rw [Hfk.out]; exact h45) hb)
          rw [hb] at HVk
          clear HS HNo h45 hb
          go_wp2_with (go_at_call 40; (with_reducible refine (HVk.out _).mono ?_); rintro e w2 ⟨rfl, hb⟩; replace hL := chain (B := w.heap.size) (a := w) (by go_grown) (Nat.le_refl _) hb; clear hb)
          go_ret
          exact ⟨by rw [HT.out]; rfl, hL⟩
    · have HS : Hid ((f 4 = 45 ∨ impF v (wide f 4) M = false) → ∀ i, i < 4 + 1 → f i = 45 ∨ impF v (wide f i) M = false) := fun h i hi => by
        by_cases e : i = 4
        · subst e; exact h
        · exact HA.out i (by omega)
      have HNo := Lib.hid (HN.out 4 (by omega))
      have HVk := HV4
      have Hfk := Hf4
      clear HI HN HY HF HA HV0 HV1 HV2 HV3 HV4 Hf0 Hf1 Hf2 Hf3 Hf4
      by_cases h45 : x4 = 45
      · have hq : (x4 != 45) = false := by rw [h45]; rfl
        have HT := Lib.hid (HS.out (.inl (by rw [Hfk.out, h45])))
        clear HS HNo HVk h45
        go_wp2_with fail
        exact ⟨⟨5, by omega, by go_num, HT.out, by go_grown, k0.alloc _, k5.alloc _⟩, by decide⟩
      · have hq : (x4 != 45) = true := by simpa using h45
        cases hb : impF v (wide f 4) M
        · have HT := Lib.hid (HS.out (.inr hb))
          rw [hb] at HVk
          clear HS HNo h45 hb
          go_wp2_with (go_at_call 40; (with_reducible refine (HVk.out _).mono ?_); rintro e w2 ⟨rfl, hb⟩; replace hL := chain (B := w.heap.size) (a := w) (by go_grown) (Nat.le_refl _) hb; replace k0 := keepAt hb (k0.alloc _); replace k5 := keepAt5 hb (k5.alloc _); clear hb)
          exact ⟨⟨5, by omega, by go_num, HT.out, hL, k0, k5⟩, by decide⟩
        · have HT := Lib.hid (HNo.out (by rw [Hfk.out]; exact h45) hb)
          rw [hb] at HVk
          clear HS HNo h45 hb
          go_wp2_with (go_at_call 40; (with_reducible refine (HVk.out _).mono ?_); rintro e w2 ⟨rfl, hb⟩; replace hL := chain (B := w.heap.size) (a := w) (by go_grown) (Nat.le_refl _) hb; clear hb)
          go_ret
          exact ⟨by rw [HT.out]; rfl, hL⟩
    · cases hb : impF v f M
      · have HT := Lib.hid (HF.out hb)
        rw [hb] at HI
        clear hb HN HY HF HA
        go_wp2_with (go_at_call 40; (with_reducible refine (HI.out _).mono ?_); rintro e w2 ⟨rfl, hb⟩; replace hL := chain (B := w.heap.size) (a := w) hL (Nat.le_refl _) hb; clear hb)
        go_ret
        exact ⟨by rw [HT.out]; rfl, hL⟩
      · have HT := Lib.hid (HY.out ⟨hb, HA.out⟩)
        rw [hb] at HI
        clear hb HN HY HF HA
        go_wp2_with (go_at_call 40; (with_reducible refine (HI.out _).mono ?_); rintro e w2 ⟨rfl, hb⟩; replace hL := chain (B := w.heap.size) (a := w) hL (Nat.le_refl _) hb; clear hb)
        go_ret
        exact ⟨by rw [HT.out]; rfl, hL⟩

end Go.Proofs.YtohmhiodmaahfaaDoor
