/- Predicates on the numbers of a slice (slices.IndexFunc, slices.ContainsFunc), and coefficients within their bounds. -/
import Derived.Test.YtibfenkaoaclfaaOwn
import Derived.Test.YtibfenkaoaclfaaValM
import Derived.LoopTactic
import Derived.Shelf.Abstract
namespace Go.Proofs.Ytibfenkaoaclfaa
open Go.RowKit
set_option linter.unusedVariables false

theorem firstB (P : Nat → Bool) (n : Nat) : ∃ j, j ≤ n ∧ (∀ i, i < j → P i = false) ∧ (j < n → P j = true) := by
  induction n with
  | zero => exact ⟨0, Nat.le_refl _, fun i hi => absurd hi (Nat.not_lt_zero i), fun h => absurd h (Nat.lt_irrefl _)⟩
  | succ n ih =>
    obtain ⟨j, h1, h2, h3⟩ := ih
    by_cases e : j < n
    · exact ⟨j, by omega, h2, fun _ => h3 e⟩
    · have ej : j = n := by omega
      subst ej
      cases hp : P j
      · refine ⟨j + 1, Nat.le_refl _, fun i hi => ?_, fun h => absurd h (Nat.lt_irrefl _)⟩
        rcases Nat.lt_or_ge i j with h | h
        · exact h2 i h
        · have e2 : i = j := by omega
          subst e2; exact hp
      · exact ⟨j, by omega, h2, fun _ => hp⟩

set_option maxRecDepth 100000 in
set_option maxHeartbeats 1000000 in
theorem indexFunc_any (v : Value) (xs : List Int) (F : Nat) (caps : Array Value) (p : Int → Bool) (j : Nat) (w : World) (ha : Reads w v xs)
    (hj : j ≤ xs.length) (hno : ∀ i, i < j → p (xs.getD i 0) = false) (hyes : j < xs.length → p (xs.getD j 0) = true)
    (hf : ∀ (x : Int) (wx : World), Below w.heap.size w wx → Calls Try.prog F (#[.int .i64 x] ++ caps) wx fun e w' => e = .returned (.bool (p x)) ∧ Below wx.heap.size wx w')
    (hE : ∀ (args : Array Value) (w : World), (callFunc F args).run Try.prog w = .ok (.enter F args) w) {r : Int} (hr : (if j < xs.length then (j : Int) else -1) = r) :
    Calls Try.prog 75 #[v, .func (.func F) #[] caps] w fun e w' => e = .returned (.int .i64 r) ∧ Below w.heap.size w w' := by
  obtain ⟨a, ca, rfl, hm, ha'⟩ := ha
  unfold maxLen at hm
  have Ha : Hid (∀ i, i < xs.length → ∃ b off, a = some ⟨b, off, none⟩ ∧ w.cell? ⟨b, off + i, none⟩ = some (.int .i64 (xs.getD i 0))) := by
    rcases ha' with rfl | ⟨b, off, rfl, ha'⟩
    · intro i hi; simp at hi
    · intro i hi; exact ⟨b, off, rfl, ha' i hi⟩
  have Hf := Lib.hid hf
  have Hno := Lib.hid hno
  have Hyes := Lib.hid hyes
  have Hr := Lib.hid hr
  clear ha' hf hno hyes hr
  generalize hnn : xs.length = n at *
  clear hnn
  go_enter Try.func75, Try.ntmps75
  go_wp2_with fail
  go_loopw [8] (fun c wr => ∃ k : Nat, k ≤ j ∧ c = .int .i64 (k : Int) ∧ Below w.heap.size w wr) (fun c _ => n - (intOf c).toNat)
  case atStart => exact ⟨0, Nat.zero_le _, rfl, Below.refl _ _⟩
  case round =>
    obtain ⟨k, hk, rfl, hL⟩ := hrel
    by_cases hlt : k < n
    · obtain ⟨b, off, rfl, hca0⟩ := Ha.out k hlt
      have hca := cell_later hL hca0
      have hi1 : (k : Int) < (n : Int) := by omega
      have hi0 : (0 : Int) ≤ (k : Int) := by omega
      by_cases hkj : k < j
      · have HC : Hid (∀ wx, Below w.heap.size w wx → Calls Try.prog F (#[.int .i64 (xs.getD k 0)] ++ caps) wx fun e w' => e = .returned (.bool false) ∧ Below wx.heap.size wx w') := fun wx hb => by
          have := Hf.out (xs.getD k 0) wx hb
          rwa [Hno.out k hkj] at this
        clear hca0
        generalize xs.getD k 0 = x at *
        go_wp2_with ((with_reducible refine (HC.out _ (by first | exact hL | go_grown)).mono ?_); rintro e w' ⟨rfl, hb⟩; have hL := chain (B := w.heap.size) (a := w) hL (Nat.le_refl _) hb; clear hb)
        go_roundw
        case rel => exact ⟨k + 1, by omega, by go_num, hL⟩
        case measure => simp [intOf]; omega
      · have e : k = j := by omega
        subst e
        have HC : Hid (∀ wx, Below w.heap.size w wx → Calls Try.prog F (#[.int .i64 (xs.getD k 0)] ++ caps) wx fun e w' => e = .returned (.bool true) ∧ Below wx.heap.size wx w') := fun wx hb => by
          have := Hf.out (xs.getD k 0) wx hb
          rwa [Hyes.out hlt] at this
        have HR : Hid (r = (k : Int)) := by have := Hr.out; rw [if_pos hlt] at this; exact this.symm
        clear hca0
        generalize xs.getD k 0 = x at *
        go_wp2_with ((with_reducible refine (HC.out _ (by first | exact hL | go_grown)).mono ?_); rintro e w' ⟨rfl, hb⟩; have hL := chain (B := w.heap.size) (a := w) hL (Nat.le_refl _) hb; clear hb)
        go_ret
        exact ⟨by rw [HR.out]; rfl, hL⟩
    · have HR : Hid (r = -1) := by have := Hr.out; rw [if_neg (by omega)] at this; exact this.symm
      go_wp2_with fail
      go_ret
      exact ⟨by rw [HR.out]; rfl, hL⟩

theorem containsFunc_any (v : Value) (xs : List Int) (F : Nat) (caps : Array Value) (p : Int → Bool) (w : World) (ha : Reads w v xs)
    (hf : ∀ (x : Int) (wx : World), Below w.heap.size w wx → Calls Try.prog F (#[.int .i64 x] ++ caps) wx fun e w' => e = .returned (.bool (p x)) ∧ Below wx.heap.size wx w')
    (hE : ∀ (args : Array Value) (w : World), (callFunc F args).run Try.prog w = .ok (.enter F args) w) {b : Bool} (hb : decide (∃ i, i < xs.length ∧ p (xs.getD i 0) = true) = b) :
    Calls Try.prog 66 #[v, .func (.func F) #[] caps] w fun e w' => e = .returned (.bool b) ∧ Below w.heap.size w w' := by
  obtain ⟨j, hj, hno, hyes⟩ := firstB (fun i => p (xs.getD i 0)) xs.length
  have hI : Hid (∀ {r : Int}, (if j < xs.length then (j : Int) else -1) = r → Calls Try.prog 75 #[v, .func (.func F) #[] caps] w fun e w' => e = .returned (.int .i64 r) ∧ Below w.heap.size w w') :=
    fun h => indexFunc_any v xs F caps p j w ha hj hno hyes hf hE h
  by_cases hlt : j < xs.length
  · have hB : Hid (b = true) := by rw [Hid, ← hb]; exact decide_eq_true ⟨j, hlt, hyes hlt⟩
    have HI := Lib.hid (hI.out (if_pos hlt))
    clear hb hI hf hno hyes ha hlt hE
    go_enter Try.func66, Try.ntmps66
    go_wp2_with fail
    refine HI.out.mono ?_
    rintro e w' ⟨rfl, hL⟩
    go_wp2_with fail
    go_ret
    exact ⟨by rw [hB.out]; simp, hL⟩
  · have hB : Hid (b = false) := by
      rw [Hid, ← hb]
      refine decide_eq_false fun ⟨i, hi, h⟩ => ?_
      have := hno i (by omega)
      rw [this] at h; cases h
    have HI := Lib.hid (hI.out (if_neg hlt))
    clear hb hI hf hno hyes ha hlt hE
    go_enter Try.func66, Try.ntmps66
    go_wp2_with fail
    refine HI.out.mono ?_
    rintro e w' ⟨rfl, hL⟩
    go_wp2_with fail
    go_ret
    exact ⟨by rw [hB.out]; rfl, hL⟩

/-! ### coefficients within their bounds -/
def coB (M most : Int) (xs : List Int) : Bool := decide (1 ≤ xs.length ∧ (xs.length : Int) ≤ most ∧ inM M xs)
/-- is a number out of the bounds -/
def farB (M x : Int) : Bool := decide (x < -M ∨ M < x)

theorem far_any (M x : Int) (bi : Nat) (w : World) (m0 : 0 ≤ M) (m1 : M ≤ 1000000000000) (hc : w.cell? ⟨bi, 0, none⟩ = some (.int .i64 M)) :
    Calls Try.prog 65 #[.int .i64 x, .pointer (some ⟨bi, 0, none⟩)] w fun e w' => e = .returned (.bool (farB M x)) ∧ Below w.heap.size w w' := by
  by_cases h1 : x < -M
  · have HF : Hid (farB M x = true) := decide_eq_true (.inl h1)
    go_enter Try.func65, Try.ntmps65
    go_wp2
    go_ret
    exact ⟨by rw [HF.out]; rfl, Below.refl _ _⟩
  · by_cases h2 : M < x
    · have HF : Hid (farB M x = true) := decide_eq_true (.inr h2)
      go_enter Try.func65, Try.ntmps65
      go_wp2
      go_ret
      exact ⟨by rw [HF.out]; rfl, Below.refl _ _⟩
    · have HF : Hid (farB M x = false) := decide_eq_false (by omega)
      go_enter Try.func65, Try.ntmps65
      go_wp2
      go_ret
      exact ⟨by rw [HF.out]; rfl, Below.refl _ _⟩

theorem far_inM {M : Int} {xs : List Int} : inM M xs ↔ ¬ ∃ i, i < xs.length ∧ farB M (xs.getD i 0) = true := by
  constructor
  · rintro h ⟨i, hi, hf⟩
    have := h i hi
    have := of_decide_eq_true hf
    omega
  · intro h i hi
    have : ¬ (xs.getD i 0 < -M ∨ M < xs.getD i 0) := fun hh => h ⟨i, hi, decide_eq_true hh⟩
    omega

set_option maxRecDepth 100000 in
set_option maxHeartbeats 1000000 in
theorem areCo_any (v : Value) (xs : List Int) (most M : Int) (w : World) (ha : Reads w v xs) (m0 : 0 ≤ M) (m1 : M ≤ 1000000000000) {b : Bool} (hb : coB M most xs = b) :
    Calls Try.prog 36 #[v, .int .i64 most, .int .i64 M] w fun e w' => e = .returned (.bool b) ∧ Below w.heap.size w w' := by
  have HA := Lib.hid ha
  obtain ⟨a, ca, rfl, hm, _⟩ := ha
  unfold maxLen at hm
  have c0 : (w.alloc (.cells #[.int .i64 M] 2)).cell? ⟨w.heap.size, 0, none⟩ = some (.int .i64 M) := by rw [World.cell?_alloc_at _ _ _ _ rfl]; rfl
  by_cases h1 : 1 ≤ xs.length
  · by_cases h2 : (xs.length : Int) ≤ most
    · have HC : Hid (Calls Try.prog 66 #[.slice a xs.length ca, .func (.func 65) #[] #[.pointer (some ⟨w.heap.size, 0, none⟩)]] (w.alloc (.cells #[.int .i64 M] 2)) fun e w' => e = .returned (.bool (!b)) ∧ Below (w.alloc (.cells #[.int .i64 M] 2)).heap.size (w.alloc (.cells #[.int .i64 M] 2)) w') := by
        refine containsFunc_any _ xs _ _ (farB M) _ (HA.out.keep (by go_grown)) (fun x wx hbl => ?_) (enters_of Try.func65 (by kernel_rfl) rfl) ?_
        · exact far_any M x w.heap.size wx m0 m1 (cell_later hbl c0)
        · rw [← hb]
          by_cases hin : inM M xs
          · have e1 : coB M most xs = true := decide_eq_true ⟨h1, h2, hin⟩
            rw [e1]
            exact decide_eq_false (far_inM.1 hin)
          · have e1 : coB M most xs = false := decide_eq_false fun h => hin h.2.2
            rw [e1]
            exact decide_eq_true (Classical.not_not.1 fun h => hin (far_inM.2 h))
      have hi1 : (1 : Int) ≤ (xs.length : Int) := by omega
      clear hb c0 HA
      generalize xs.length = n at *
      go_enter Try.func36, Try.ntmps36
      go_wp2_with (go_at_call 66; (with_reducible refine HC.out.mono ?_); rintro e w' ⟨rfl, hbl⟩; have hL := chain (B := w.heap.size) (a := w) (by go_grown) (Nat.le_refl _) hbl)
      go_ret
      exact ⟨by simp, hL⟩
    · have HB : Hid (b = false) := by rw [Hid, ← hb]; exact decide_eq_false fun h => h2 h.2.1
      have hi1 : (1 : Int) ≤ (xs.length : Int) := by omega
      clear hb c0 HA
      generalize xs.length = n at *
      go_enter Try.func36, Try.ntmps36
      go_wp2
      go_ret
      exact ⟨by rw [HB.out]; rfl, by go_grown⟩
  · have HB : Hid (b = false) := by rw [Hid, ← hb]; exact decide_eq_false fun h => h1 h.1
    have hi1 : ¬ (1 : Int) ≤ (xs.length : Int) := by omega
    clear hb c0 HA
    generalize xs.length = n at *
    go_enter Try.func36, Try.ntmps36
    go_wp2
    go_ret
    exact ⟨by rw [HB.out]; rfl, by go_grown⟩

set_option maxRecDepth 100000 in
set_option maxHeartbeats 1000000 in
theorem l05List_any (v : Value) (xs : List Int) (most M : Int) (w : World) (ha : Reads w v xs) (m0 : 0 ≤ M) (m1 : M ≤ 1000000000000) {b : Bool} (hb : coB M most xs = b) :
    Calls Try.prog 35 #[v, .int .i64 most, .int .i64 M] w fun e w' => e = .returned (.bool b) ∧ Below w.heap.size w w' := by
  obtain ⟨a, ca, rfl, hm, ha'⟩ := ha
  unfold maxLen at hm
  obtain ⟨j, hj, hno, hyes⟩ := firstB (fun i => farB M (xs.getD i 0)) xs.length
  have HB : Hid ((j < xs.length → b = false) ∧ (¬ j < xs.length → b = decide (1 ≤ xs.length ∧ (xs.length : Int) ≤ most))) := by
    subst hb
    refine ⟨fun h => decide_eq_false fun hh => ?_, fun h => ?_⟩
    · exact far_inM.1 hh.2.2 ⟨j, h, hyes h⟩
    · have hin : inM M xs := far_inM.2 fun ⟨i, hi, hf⟩ => by
        have := hno i (by omega)
        rw [this] at hf; cases hf
      unfold coB
      rw [decide_eq_decide]
      exact ⟨fun h => ⟨h.1, h.2.1⟩, fun h => ⟨h.1, h.2, hin⟩⟩
  have Ha : Hid (∀ i, i < xs.length → ∃ b off, a = some ⟨b, off, none⟩ ∧ w.cell? ⟨b, off + i, none⟩ = some (.int .i64 (xs.getD i 0))) := by
    rcases ha' with rfl | ⟨b, off, rfl, ha'⟩
    · intro i hi; simp at hi
    · intro i hi; exact ⟨b, off, rfl, ha' i hi⟩
  have Hno : Hid (∀ i, i < j → -M ≤ xs.getD i 0 ∧ xs.getD i 0 ≤ M) := fun i hi => by
    have := of_decide_eq_false (show decide (xs.getD i 0 < -M ∨ M < xs.getD i 0) = false from hno i hi)
    omega
  have Hyes : Hid (j < xs.length → ¬ (-M ≤ xs.getD j 0 ∧ xs.getD j 0 ≤ M)) := fun h => by
    have := of_decide_eq_true (show decide (xs.getD j 0 < -M ∨ M < xs.getD j 0) = true from hyes h)
    omega
  clear ha' hno hyes hb
  generalize hnn : xs.length = n at *
  clear hnn
  go_enter Try.func35, Try.ntmps35
  go_wp2_with fail
  go_loopw [7] (fun c wr => ∃ k : Nat, k ≤ j ∧ c = .int .i64 (k : Int) ∧ Below w.heap.size w wr) (fun c _ => n - (intOf c).toNat)
  case atStart => exact ⟨0, Nat.zero_le _, rfl, Below.refl _ _⟩
  case round =>
    obtain ⟨k, hk, rfl, hL⟩ := hrel
    by_cases hlt : k < n
    · obtain ⟨b, off, rfl, hca0⟩ := Ha.out k hlt
      have hca := cell_later hL hca0
      have hi1 : (k : Int) < (n : Int) := by omega
      have hi0 : (0 : Int) ≤ (k : Int) := by omega
      by_cases hkj : k < j
      · have HK := Lib.hid (Hno.out k hkj)
        clear hca0
        generalize xs.getD k 0 = x at *
        go_wp2_with ((go_at_call 37; (with_reducible refine (l01In_yes _ _ _ _ HK.out).mono ?_); rintro e w' ⟨rfl, rfl⟩))
        go_roundw
        case rel => exact ⟨k + 1, by omega, by go_num, hL⟩
        case measure => simp [intOf]; omega
      · have e : k = j := by omega
        subst e
        have HK := Lib.hid (Hyes.out hlt)
        have HR := Lib.hid (HB.out.1 hlt)
        clear hca0
        generalize xs.getD k 0 = x at *
        go_wp2_with ((go_at_call 37; (with_reducible refine (l01In_no _ _ _ _ HK.out).mono ?_); rintro e w' ⟨rfl, rfl⟩))
        go_ret
        exact ⟨by rw [HR.out]; rfl, hL⟩
    · have HR := Lib.hid (HB.out.2 (by omega))
      by_cases h1 : 1 ≤ n
      · have hi1 : (0 : Int) < (n : Int) := by omega
        by_cases h2 : (n : Int) ≤ most
        · have HR2 : Hid (b = true) := by rw [Hid, HR.out]; exact decide_eq_true ⟨h1, h2⟩
          go_wp2_with fail
          go_ret
          exact ⟨by rw [HR2.out]; rfl, hL⟩
        · have HR2 : Hid (b = false) := by rw [Hid, HR.out]; exact decide_eq_false fun h => h2 h.2
          go_wp2_with fail
          go_ret
          exact ⟨by rw [HR2.out]; rfl, hL⟩
      · have hi1 : ¬ (0 : Int) < (n : Int) := by omega
        have HR2 : Hid (b = false) := by rw [Hid, HR.out]; exact decide_eq_false fun h => h1 h.1
        go_wp2_with fail
        go_ret
        exact ⟨by rw [HR2.out]; rfl, hL⟩

end Go.Proofs.Ytibfenkaoaclfaa
