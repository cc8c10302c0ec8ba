/- LadderChance: the program's and the model's. -/
import Derived.Test.YtibfenkaoaclfaaPutS
import Derived.Test.YtibfenkaoaclfaaFra
namespace Go.Proofs.Ytibfenkaoaclfaa
open Go.RowKit
set_option linter.unusedVariables false

/-- 1 less a polynomial -/
def omL (f : List Int) : List Int := plusL [1] (timesL f [-1])
theorem omL_len (f : List Int) (h : 1 ≤ f.length) : (omL f).length = f.length := by unfold omL; rw [plusL_len, timesL_len]; simp; omega
theorem cf_omL (f : List Int) (k : Nat) : cf (omL f) k = cstF 1 k - cf f k := by
  unfold omL
  rw [cf_plusL, cf_timesL]
  simp only []
  rw [cf_one, cf_one, mulF_cst_right]; omega
theorem mulF_X (f : Nat → Int) (k : Nat) : mulF f (cf [0, 1]) (k + 1) = f k := by
  induction k generalizing f with
  | zero => simp [mulF, cf]
  | succ k ih =>
    rw [mulF, ih (fun n => f (n + 1))]
    simp [cf]
theorem cf_X (a k : Nat) : cf (powL [0, 1] a) k = if k = a then 1 else 0 := by
  induction a generalizing k with
  | zero => rw [powL, cf_one]; rfl
  | succ a ih =>
    rw [powL, cf_timesL]
    cases k with
    | zero => simp [mulF, cf]
    | succ k => rw [mulF_X, ih]; simp
/-- the line of a ladder: 1 less p to the power a -/
def lineL (a : Nat) : List Int := listF (a + 1) (fun k => if k = a then -1 else if k = 0 then 1 else 0)
theorem line_eq (a : Nat) (h : 1 ≤ a) : omL (powL [0, 1] a) = lineL a := by
  have hl : (powL [0, 1] a).length = a + 1 := by rw [powL_len [0, 1] (by simp)]; simp
  apply list_ext_cf
  · rw [omL_len _ (by omega), hl]; unfold lineL; rw [listF_len]
  · intro k
    rw [cf_omL, cf_X]
    unfold lineL
    rw [cf_listF _ _ (fun k hk => by rw [if_neg (by omega), if_neg (by omega)])]
    unfold cstF
    by_cases h1 : k = a
    · rw [if_pos h1, if_pos h1, if_neg (by omega)]; rfl
    · rw [if_neg h1, if_neg h1]; split <;> rfl
def ladOk (a b : Int) : Bool := decide ((1 ≤ a ∧ a ≤ 24) ∧ (1 ≤ b ∧ b ≤ 24) ∧ a * b ≤ 24)
def ladL (a b : Int) : List Int := W (omL (powL (lineL a.toNat) b.toNat))
def resLadderChance_0 (a b : Int) : List Int := if ladOk a b = true then ladL a b else []
def resLadderChance_1 (a b : Int) : Int := if ladOk a b = true then 0 else 2
theorem lad_no {a b : Int} (h : ¬ ((1 ≤ a ∧ a ≤ 24) ∧ (1 ≤ b ∧ b ≤ 24) ∧ a * b ≤ 24)) : resLadderChance_0 a b = [] ∧ resLadderChance_1 a b = 2 := by
  have h' : ¬ ladOk a b = true := by unfold ladOk; rw [decide_eq_false h]; exact Bool.false_ne_true
  exact ⟨if_neg h', if_neg h'⟩
theorem lad_yes {a b : Int} (h : (1 ≤ a ∧ a ≤ 24) ∧ (1 ≤ b ∧ b ≤ 24) ∧ a * b ≤ 24) : resLadderChance_0 a b = ladL a b ∧ resLadderChance_1 a b = 0 := by
  have h' : ladOk a b = true := decide_eq_true h
  exact ⟨if_pos h', if_pos h'⟩
theorem lineL_len (a : Nat) : (lineL a).length = a + 1 := listF_len _ _
theorem ladP_len {A B : Nat} : (powL (lineL A) B).length = A * B + 1 := by rw [powL_len _ (by rw [lineL_len]; omega), lineL_len]; simp
theorem lenLadderChance_0 (a b : Int) : (resLadderChance_0 a b).length ≤ 100000 := by
  unfold resLadderChance_0
  split
  · rename_i h
    have h2 := of_decide_eq_true (show decide ((1 ≤ a ∧ a ≤ 24) ∧ (1 ≤ b ∧ b ≤ 24) ∧ a * b ≤ 24) = true from h)
    obtain ⟨A, rfl⟩ := Int.eq_ofNat_of_zero_le (show 0 ≤ a by omega)
    obtain ⟨B, rfl⟩ := Int.eq_ofNat_of_zero_le (show 0 ≤ b by omega)
    unfold ladL
    rw [W_len, Int.toNat_natCast, Int.toNat_natCast, omL_len _ (by rw [ladP_len]; omega), ladP_len]
    have : A * B ≤ 24 * 24 := Nat.mul_le_mul (by omega) (by omega)
    omega
  · simp

set_option maxHeartbeats 1000000 in
theorem oneMinus_any (v : Value) (f : List Int) (w : World) (ha : Reads w v (W f)) (hf : 1 ≤ f.length) (hf2 : f.length ≤ 5000) :
    Calls Try.prog 48 #[v] w fun e w' => ∃ u, e = .returned u ∧ Owns w' w.heap.size u (W (omL f)) ∧ Below w.heap.size w w' := by
  have HA := Lib.hid ha
  have o1 := owns_one w 2 1 (by unfold wrap64; rfl)
  have o2 := owns_one (w.alloc (.cells #[.int .i64 1] 2)) 2 (-1) (by unfold wrap64; rfl)
  have hb1 : Below w.heap.size w (w.alloc (.cells #[.int .i64 1] 2)) := (Below.refl _ _).alloc (Nat.le_refl _) _
  have hb2 : Below (w.alloc (.cells #[.int .i64 1] 2)).heap.size (w.alloc (.cells #[.int .i64 1] 2)) ((w.alloc (.cells #[.int .i64 1] 2)).alloc (.cells #[.int .i64 (-1)] 2)) := (Below.refl _ _).alloc (Nat.le_refl _) _
  have HO1 := Lib.hid (ownsKeepAt hb2 o1)
  have HO2 := Lib.hid o2
  have hL := chain (B := w.heap.size) (a := w) hb1 (Nat.le_refl _) hb2
  clear ha o1 o2 hb1 hb2
  rw [World.size_alloc] at HO2
  go_enter Try.func48, Try.ntmps48
  go_wp2_with fail
  refine (times_any _ _ f [-1] _ (HA.out.keep hL) HO2.out.reads hf (by omega) (by simp) (by simp)).mono ?_
  rintro e w3 ⟨u3, rfl, o3, hb3⟩
  have hL3 := chain (B := w.heap.size) (a := w) hL (Nat.le_refl _) hb3
  have HO3 := Lib.hid o3
  have HO1' := Lib.hid (ownsKeepAt hb3 HO1.out)
  clear o3 hb3 hL HO1 HO2
  go_wp2_with fail
  refine (plus_any _ _ [1] (timesL f [-1]) _ HO1'.out.reads HO3.out.reads (by simp) (by simp) (by rw [timesL_len]; simp; omega) (by rw [timesL_len]; simp; omega)).mono ?_
  rintro e w4 ⟨u4, rfl, o4, hb4⟩
  have hL4 := chain (B := w.heap.size) (a := w) hL3 (Nat.le_refl _) hb4
  have hz := hL3.size
  have HO4 := Lib.hid (o4.mono hz)
  clear o4 hb4
  go_wp2_with fail
  go_ret
  exact ⟨_, rfl, HO4.out, hL4⟩

theorem isSize24 (x : Int) (w : World) {b : Bool} (hb : decide (1 ≤ x ∧ x ≤ 24) = b) :
    Calls Try.prog 47 #[.int .i64 x, .int .i64 24] w fun e w' => e = .returned (.bool b) ∧ w = w' := isSize_b x 24 w hb

set_option maxRecDepth 100000 in
set_option maxHeartbeats 2000000 in
theorem iLadderChance_any (a b : Int) (w : World) :
    Calls Try.prog 21 #[.int .i64 a, .int .i64 b] w fun e w' => ∃ u, e = .returned (.tuple #[u, .int .i64 (resLadderChance_1 a b)]) ∧ In w' w.heap.size w'.heap.size u (resLadderChance_0 a b) ∧ Below w.heap.size w w' := by
  by_cases h1 : 1 ≤ a ∧ a ≤ 24
  · have H1 := Lib.hid (fun w => isSize24 a w (decide_eq_true h1))
    by_cases h2 : 1 ≤ b ∧ b ≤ 24
    · have H2 := Lib.hid (fun w => isSize24 b w (decide_eq_true h2))
      obtain ⟨A, rfl⟩ := Int.eq_ofNat_of_zero_le (show 0 ≤ a by omega)
      obtain ⟨B, rfl⟩ := Int.eq_ofNat_of_zero_le (show 0 ≤ b by omega)
      have hAB : A * B ≤ 24 * 24 := Nat.mul_le_mul (by omega) (by omega)
      have hAB0 : ((A * B : Nat) : Int) = (A : Int) * (B : Int) := Int.natCast_mul A B
      obtain ⟨Q, hQ⟩ : ∃ Q : Int, (A : Int) * (B : Int) = Q := ⟨_, rfl⟩
      have hQ0 : 0 ≤ Q ∧ Q ≤ 576 := by omega
      obtain ⟨hQ1, hQ2⟩ := hQ0
      by_cases h3 : Q ≤ 24
      · obtain ⟨r0, r1⟩ := lad_yes (a := (A : Int)) (b := (B : Int)) ⟨h1, h2, by omega⟩
        rw [r0, r1]
        have HLine := Lib.hid (line_eq A (by omega))
        have HPX : Hid ((powL [0, 1] A).length = A + 1) := by unfold Hid; rw [powL_len [0, 1] (by simp)]; simp
        have HLen : Hid ((lineL A).length = A + 1 ∧ (powL (lineL A) B).length = A * B + 1) := ⟨lineL_len A, ladP_len⟩
        have hA1 : 1 ≤ A ∧ A ≤ 24 := by omega
        have hB1 : 1 ≤ B ∧ B ≤ 24 := by omega
        have HAB : Hid (A * B ≤ 576) := hAB
        obtain ⟨hA1, hA2⟩ := hA1
        obtain ⟨hB1, hB2⟩ := hB1
        have e01 : (W [0, 1]).map (Value.int .i64) = [.int .i64 0, .int .i64 1] := by simp [W]; unfold wrap64; exact ⟨rfl, rfl⟩
        have o1 : Owns (w.alloc (.cells #[.int .i64 0, .int .i64 1] 2)) w.heap.size (.slice (some ⟨w.heap.size, 0, none⟩) 2 2) (W [0, 1]) := by
          unfold Owns
          rw [e01]
          exact ⟨by simp [W_len], .inr ⟨w.heap.size, 2, #[.int .i64 0, .int .i64 1], rfl, Nat.le_refl _, heap_alloc_new w _, by simp [W_len], by decide, rfl, by simp [W_len]⟩⟩
        have HO1 := Lib.hid o1
        have hL : Below w.heap.size w (w.alloc (.cells #[.int .i64 0, .int .i64 1] 2)) := (Below.refl _ _).alloc (Nat.le_refl _) _
        clear o1 e01 r0 r1 h1 h2 hAB hAB0
        go_enter Try.func21, Try.ntmps21
        go_wp2_with (first | (go_at_call 47; (with_reducible refine (H1.out _).mono ?_); rintro e w' ⟨rfl, rfl⟩) | (go_at_call 47; (with_reducible refine (H2.out _).mono ?_); rintro e w' ⟨rfl, rfl⟩))
        refine (power_any _ [0, 1] A _ HO1.out.reads (by simp) (by omega) (by have := HPX.out; omega)).mono ?_
        rintro e w2 ⟨u2, rfl, o2, hb2⟩
        have hL2 := chain (B := w.heap.size) (a := w) hL (Nat.le_refl _) hb2
        have HO2 := Lib.hid o2
        clear o2 hb2 hL HO1
        go_wp2_with fail
        refine (oneMinus_any _ (powL [0, 1] A) _ HO2.out.reads (by have := HPX.out; omega) (by have := HPX.out; omega)).mono ?_
        rintro e w3 ⟨u3, rfl, o3, hb3⟩
        have hL3 := chain (B := w.heap.size) (a := w) hL2 (Nat.le_refl _) hb3
        rw [HLine.out] at o3
        have HO3 := Lib.hid o3
        clear o3 hb3 hL2 HO2
        go_wp2_with fail
        refine (power_any _ (lineL A) B _ HO3.out.reads (by have := HLen.out.1; omega) (by omega) (by have := HLen.out.2; have := HAB.out; omega)).mono ?_
        rintro e w4 ⟨u4, rfl, o4, hb4⟩
        have hL4 := chain (B := w.heap.size) (a := w) hL3 (Nat.le_refl _) hb4
        have HO4 := Lib.hid o4
        have hz4 := hL4.size
        clear o4 hb4 hL3 HO3
        go_wp2_with fail
        refine (oneMinus_any _ (powL (lineL A) B) _ HO4.out.reads (by have := HLen.out.2; omega) (by have := HLen.out.2; have := HAB.out; omega)).mono ?_
        rintro e w5 ⟨u5, rfl, o5, hb5⟩
        have hL5 := chain (B := w.heap.size) (a := w) hL4 (Nat.le_refl _) hb5
        have HO5 := Lib.hid (o5.mono hz4)
        clear o5 hb5 hL4 HO4
        go_wp2_with fail
        go_ret2
        refine ⟨_, rfl, ?_, hL5⟩
        unfold ladL
        rw [Int.toNat_natCast, Int.toNat_natCast]
        exact In.of HO5.out (Nat.le_refl _) (Nat.le_refl _)
      · obtain ⟨r0, r1⟩ := lad_no (a := (A : Int)) (b := (B : Int)) (fun h => h3 (by rw [← hQ]; exact h.2.2))
        rw [r0, r1]
        clear r0 r1 h1 h2 hAB hAB0
        go_enter Try.func21, Try.ntmps21
        go_wp2_with (first | (go_at_call 47; (with_reducible refine (H1.out _).mono ?_); rintro e w' ⟨rfl, rfl⟩) | (go_at_call 47; (with_reducible refine (H2.out _).mono ?_); rintro e w' ⟨rfl, rfl⟩))
        go_ret2
        exact ⟨_, rfl, In.of (World.ownsRow_nil _ _ _ _ : Owns _ w.heap.size _ []) (Nat.le_refl _) (Nat.le_refl _), Below.refl _ _⟩
    · obtain ⟨r0, r1⟩ := lad_no (a := a) (b := b) (fun h => h2 h.2.1)
      rw [r0, r1]
      have H2 := Lib.hid (fun w => isSize24 b w (decide_eq_false h2))
      clear r0 r1 h1 h2
      go_enter Try.func21, Try.ntmps21
      go_wp2_with (first | (go_at_call 47; (with_reducible refine (H1.out _).mono ?_); rintro e w' ⟨rfl, rfl⟩) | (go_at_call 47; (with_reducible refine (H2.out _).mono ?_); rintro e w' ⟨rfl, rfl⟩))
      go_ret2
      exact ⟨_, rfl, In.of (World.ownsRow_nil _ _ _ _ : Owns _ w.heap.size _ []) (Nat.le_refl _) (Nat.le_refl _), Below.refl _ _⟩
  · obtain ⟨r0, r1⟩ := lad_no (a := a) (b := b) (fun h => h1 h.1)
    rw [r0, r1]
    have H1 := Lib.hid (fun w => isSize24 a w (decide_eq_false h1))
    clear r0 r1 h1
    go_enter Try.func21, Try.ntmps21
    go_wp2_with (go_at_call 47; (with_reducible refine (H1.out _).mono ?_); rintro e w' ⟨rfl, rfl⟩)
    go_ret2
    exact ⟨_, rfl, In.of (World.ownsRow_nil _ _ _ _ : Owns _ w.heap.size _ []) (Nat.le_refl _) (Nat.le_refl _), Below.refl _ _⟩

end Go.Proofs.Ytibfenkaoaclfaa
