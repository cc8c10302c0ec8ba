/- TableOfRows: ascending lists, and the program's. -/
import Derived.Test.YtbliibcfnfgdmaaCopy
namespace Go.Proofs.Ytbliibcfnfgdmaa
open Go.RowKit
set_option linter.unusedVariables false

/-- is the element i of a list as an ascending list below l wants it -/
def okAt (l : Int) (xs : List Int) (i : Nat) : Prop := (0 ≤ xs.getD i 0 ∧ xs.getD i 0 < l) ∧ (0 < i → xs.getD (i - 1) 0 < xs.getD i 0)
instance (l : Int) (xs : List Int) (i : Nat) : Decidable (okAt l xs i) := by unfold okAt; infer_instance
/-- an ascending list of numbers below l -/
def ascB (l : Int) (xs : List Int) : Prop := ∀ i, i < xs.length → okAt l xs i
theorem first_bad (l : Int) (xs : List Int) (h : ¬ ascB l xs) : ∃ j, j < xs.length ∧ (∀ i, i < j → okAt l xs i) ∧ ¬ okAt l xs j := by
  have main : ∀ m, m ≤ xs.length → (∀ i, i < m → okAt l xs i) ∨ ∃ j, j < xs.length ∧ (∀ i, i < j → okAt l xs i) ∧ ¬ okAt l xs j := by
    intro m
    induction m with
    | zero => intro _; left; intro i hi; omega
    | succ m ih =>
      intro hm
      rcases ih (by omega) with hall | hbad
      · by_cases hk : okAt l xs m
        · left; intro i hi
          rcases Nat.lt_or_ge i m with h1 | h1
          · exact hall i h1
          · have : i = m := by omega
            subst this; exact hk
        · right; exact ⟨m, by omega, hall, hk⟩
      · right; exact hbad
  rcases main xs.length (Nat.le_refl _) with hall | hbad
  · exact absurd hall h
  · exact hbad

set_option maxRecDepth 100000 in
set_option maxHeartbeats 1000000 in
theorem asc_walk (b off n ca j : Nat) (l : Int) (xs : List Int) (w : World) (hm : n ≤ 9223372036854775807)
    (hc : ∀ i, i < n → w.cell? ⟨b, off + i, none⟩ = some (.int .i64 (xs.getD i 0))) (hj : j ≤ n) (hok : ∀ i, i < j → okAt l xs i) (hbad : j < n → ¬ okAt l xs j) :
    Calls Try.prog 61 #[.slice (some ⟨b, off, none⟩) n ca, .int .i64 l] w fun e w' => e = .returned (.bool (decide (j = n))) ∧ w = w' := by
  have Hc := Lib.hid hc
  have Hok := Lib.hid hok
  have Hbad := Lib.hid hbad
  clear hc hok hbad
  go_enter Try.func61, Try.ntmps61
  go_wp2_with fail
  go_loop [9] (fun c => ∃ k : Nat, k ≤ j ∧ c = .int .i64 (k : Int)) (fun c => n - (intOf c).toNat)
  case atStart => exact ⟨0, Nat.zero_le _, rfl⟩
  case round =>
    obtain ⟨k, hk, rfl⟩ := hrel
    by_cases hlt : k < n
    · have hca := Hc.out k hlt
      have hi1 : (k : Int) < (n : Int) := by omega
      have hi0 : (0 : Int) ≤ (k : Int) := by omega
      by_cases hkj : k < j
      · have hK := Hok.out k hkj
        have HB : Hid (0 ≤ xs.getD k 0 ∧ xs.getD k 0 < l) := hK.1
        rcases Nat.eq_zero_or_pos k with hz | hp
        · subst hz
          clear hK
          simp only [Nat.add_zero] at hca
          generalize xs.getD 0 0 = x at *
          go_wp2_with ((go_at_call 58; (with_reducible refine (isBelow_yes _ _ _ HB.out).mono ?_); rintro e w' ⟨rfl, rfl⟩))
          go_round
          case rel => exact ⟨0 + 1, by omega, by go_num⟩
          case measure => simp [intOf]; omega
        · have hq := hK.2 hp
          have hcp := Hc.out (k - 1) (by omega)
          have hp1 : (0 : Int) < (k : Int) := by omega
          have hp2 : (0 : Int) ≤ (k : Int) - 1 := by omega
          have hp3 : (k : Int) - 1 < (n : Int) := by omega
          have hp4 : ((k : Int) - 1).toNat = k - 1 := by omega
          clear hK
          generalize xs.getD k 0 = x at *
          generalize xs.getD (k - 1) 0 = y at *
          go_wp2_with ((go_at_call 58; (with_reducible refine (isBelow_yes _ _ _ HB.out).mono ?_); rintro e w' ⟨rfl, rfl⟩))
          go_round
          case rel => exact ⟨k + 1, by omega, by go_num⟩
          case measure => simp [intOf]; omega
      · have e : k = j := by omega
        subst e
        have hB := Hbad.out hlt
        have hr : Hid (decide (k = n) = false) := decide_eq_false (by omega)
        by_cases hin : 0 ≤ xs.getD k 0 ∧ xs.getD k 0 < l
        · have HB := Lib.hid hin
          have hp : 0 < k ∧ xs.getD k 0 ≤ xs.getD (k - 1) 0 := by
            rcases Nat.eq_zero_or_pos k with hz | hp
            · exact absurd ⟨hin, fun h => by omega⟩ hB
            · refine ⟨hp, Int.not_lt.1 fun h => hB ⟨hin, fun _ => h⟩⟩
          obtain ⟨hp, hq⟩ := hp
          have hcp := Hc.out (k - 1) (by omega)
          have hp1 : (0 : Int) < (k : Int) := by omega
          have hp2 : (0 : Int) ≤ (k : Int) - 1 := by omega
          have hp3 : (k : Int) - 1 < (n : Int) := by omega
          have hp4 : ((k : Int) - 1).toNat = k - 1 := by omega
          clear hB hin
          generalize xs.getD k 0 = x at *
          generalize xs.getD (k - 1) 0 = y at *
          go_wp2_with ((go_at_call 58; (with_reducible refine (isBelow_yes _ _ _ HB.out).mono ?_); rintro e w' ⟨rfl, rfl⟩))
          go_ret
          exact ⟨by rw [hr.out]; rfl, rfl⟩
        · have HB := Lib.hid hin
          clear hB hin
          rcases Nat.eq_zero_or_pos k with hz | hp
          · subst hz
            simp only [Nat.add_zero] at hca
            generalize xs.getD 0 0 = x at *
            go_wp2_with ((go_at_call 58; (with_reducible refine (isBelow_no _ _ _ HB.out).mono ?_); rintro e w' ⟨rfl, rfl⟩))
            go_ret
            exact ⟨by rw [hr.out]; rfl, rfl⟩
          · generalize xs.getD k 0 = x at *
            go_wp2_with ((go_at_call 58; (with_reducible refine (isBelow_no _ _ _ HB.out).mono ?_); rintro e w' ⟨rfl, rfl⟩))
            go_ret
            exact ⟨by rw [hr.out]; rfl, rfl⟩
    · have hr : Hid (decide (j = n) = true) := decide_eq_true (by omega)
      go_wp2_with fail
      go_ret
      exact ⟨by rw [hr.out]; rfl, rfl⟩

instance (l : Int) (xs : List Int) : Decidable (ascB l xs) := by unfold ascB; infer_instance

theorem asc_any (v : Value) (l : Int) (xs : List Int) (w : World) (ha : Reads w v xs) :
    Calls Try.prog 61 #[v, .int .i64 l] w fun e w' => e = .returned (.bool (decide (ascB l xs))) ∧ w = w' := by
  obtain ⟨a, ca, rfl, hm, ha⟩ := ha
  unfold maxLen at hm
  rcases ha with rfl | ⟨b, off, rfl, ha⟩
  · have hr : Hid (decide (ascB l []) = true) := decide_eq_true (fun i hi => absurd hi (by simp))
    go_enter Try.func61, Try.ntmps61
    go_wp2
    refine wp_loop_rounds 1 ?_
    rw [rounds_succ]
    go_wp2
    go_ret
    exact ⟨by rw [hr.out]; rfl, rfl⟩
  · by_cases h : ascB l xs
    · refine (asc_walk b off xs.length ca xs.length l xs w hm ha (Nat.le_refl _) h (fun hn => absurd hn (Nat.lt_irrefl _))).mono ?_
      rintro e w' ⟨rfl, rfl⟩
      exact ⟨by rw [decide_eq_true h]; simp, rfl⟩
    · obtain ⟨j, hj, hok, hbad⟩ := first_bad l xs h
      refine (asc_walk b off xs.length ca j l xs w hm ha (by omega) hok (fun _ => hbad)).mono ?_
      rintro e w' ⟨rfl, rfl⟩
      exact ⟨by rw [decide_eq_false h, decide_eq_false (by omega)], rfl⟩

/-- the values of the table with 1 in the first k rows of a list -/
def orTo (xs : List Int) : Nat → Int
  | 0 => 0
  | k + 1 => bits .or .i64 (orTo xs k) (wrap64 (2 ^ (xs.getD k 0).toNat))
/-- what TableOfRows gives -/
def torRes (n : Int) (xs : List Int) : Value :=
  if (1 ≤ n ∧ n ≤ 5) ∧ ascB (rcZ n) xs then .tuple #[.agg #[.int .i64 n, .int .i64 (orTo xs xs.length)], .int .i64 0] else .tuple #[.agg #[.int .i64 0, .int .i64 0], .int .i64 2]
theorem torRes_cases (n : Int) (xs : List Int) : ∃ a b c : Int, torRes n xs = .tuple #[.agg #[.int .i64 a, .int .i64 b], .int .i64 c] := by
  unfold torRes; split <;> exact ⟨_, _, _, rfl⟩

theorem asc_b (v : Value) (l : Int) (xs : List Int) (w : World) (ha : Reads w v xs) {b : Bool} (hb : decide (ascB l xs) = b) :
    Calls Try.prog 61 #[v, .int .i64 l] w fun e w' => e = .returned (.bool b) ∧ w = w' := by
  have := asc_any v l xs w ha
  rwa [hb] at this
theorem readsAt {w w' : World} {v : Value} {xs : List Int} (hb : Below w.heap.size w w') (h : Reads w v xs) : Reads w' v xs := h.keep hb

end Go.Proofs.Ytbliibcfnfgdmaa
