/- IsWiring: what the program asks of switches and wires. -/
import Derived.Test.YtkdidplpnhokiaaWiM
import Derived.Test.YtkdidplpnhokiaaCoF
import Derived.Test.YtkdidplpnhokiaaAt
import Derived.Test.YtkdidplpnhokiaaCmp
namespace Go.Proofs.Ytkdidplpnhokiaa
open Go.RowKit
set_option linter.unusedVariables false

set_option maxRecDepth 100000 in
set_option maxHeartbeats 1000000 in
/-- a predicate that leaves memory as it is -/
theorem indexFuncE_any (v : Value) (xs : List Int) (F : Nat) (caps : Array Value) (p : Int → Bool) (j : Nat) (w : World) (ha : Reads w v xs)
    (hj : j ≤ xs.length) (hno : ∀ i, i < j → p (xs.getD i 0) = false) (hyes : j < xs.length → p (xs.getD j 0) = true)
    (hf : ∀ (x : Int), Calls Try.prog F (#[.int .i64 x] ++ caps) w fun e w' => e = .returned (.bool (p x)) ∧ w = w')
    (hE : ∀ (args : Array Value) (w : World), (callFunc F args).run Try.prog w = .ok (.enter F args) w) {r : Int} (hr : (if j < xs.length then (j : Int) else -1) = r) :
    Calls Try.prog 137 #[v, .func (.func F) #[] caps] w fun e w' => e = .returned (.int .i64 r) ∧ w = w' := by
  obtain ⟨a, ca, rfl, hm, ha'⟩ := ha
  unfold maxLen at hm
  have Ha : Hid (∀ i, i < xs.length → ∃ b off, a = some ⟨b, off, none⟩ ∧ w.cell? ⟨b, off + i, none⟩ = some (.int .i64 (xs.getD i 0))) := by
    rcases ha' with rfl | ⟨b, off, rfl, ha'⟩
    · intro i hi; simp at hi
    · intro i hi; exact ⟨b, off, rfl, ha' i hi⟩
  have Hf := Lib.hid hf
  have Hno := Lib.hid hno
  have Hyes := Lib.hid hyes
  have Hr := Lib.hid hr
  clear ha' hf hno hyes hr
  generalize hnn : xs.length = n at *
  clear hnn
  go_enter Try.func137, Try.ntmps137
  go_wp2_with fail
  go_loop [8] (fun c => ∃ k : Nat, k ≤ j ∧ c = .int .i64 (k : Int)) (fun c => n - (intOf c).toNat)
  case atStart => exact ⟨0, Nat.zero_le _, rfl⟩
  case round =>
    obtain ⟨k, hk, rfl⟩ := hrel
    by_cases hlt : k < n
    · obtain ⟨b, off, rfl, hca⟩ := Ha.out k hlt
      have hi1 : (k : Int) < (n : Int) := by omega
      have hi0 : (0 : Int) ≤ (k : Int) := by omega
      by_cases hkj : k < j
      · have HC : Hid (Calls Try.prog F (#[.int .i64 (xs.getD k 0)] ++ caps) w fun e w' => e = .returned (.bool false) ∧ w = w') := by
          have := Hf.out (xs.getD k 0)
          rwa [Hno.out k hkj] at this
        generalize xs.getD k 0 = x at *
        go_wp2_with ((with_reducible refine (HC.out).mono ?_); rintro e w' ⟨rfl, rfl⟩)
        go_round
        case rel => exact ⟨k + 1, by omega, by go_num⟩
        case measure => simp [intOf]; omega
      · have e : k = j := by omega
        subst e
        have HC : Hid (Calls Try.prog F (#[.int .i64 (xs.getD k 0)] ++ caps) w fun e w' => e = .returned (.bool true) ∧ w = w') := by
          have := Hf.out (xs.getD k 0)
          rwa [Hyes.out hlt] at this
        have HR : Hid (r = (k : Int)) := by have := Hr.out; rw [if_pos hlt] at this; exact this.symm
        generalize xs.getD k 0 = x at *
        go_wp2_with ((with_reducible refine (HC.out).mono ?_); rintro e w' ⟨rfl, rfl⟩)
        go_ret
        exact ⟨by rw [HR.out]; rfl, rfl⟩
    · have HR : Hid (r = -1) := by have := Hr.out; rw [if_neg (by omega)] at this; exact this.symm
      go_wp2_with fail
      go_ret
      exact ⟨by rw [HR.out]; rfl, rfl⟩

theorem containsFuncE_any (v : Value) (xs : List Int) (F : Nat) (caps : Array Value) (p : Int → Bool) (w : World) (ha : Reads w v xs)
    (hf : ∀ (x : Int), Calls Try.prog F (#[.int .i64 x] ++ caps) w fun e w' => e = .returned (.bool (p x)) ∧ w = w')
    (hE : ∀ (args : Array Value) (w : World), (callFunc F args).run Try.prog w = .ok (.enter F args) w) {b : Bool} (hb : decide (∃ i, i < xs.length ∧ p (xs.getD i 0) = true) = b) :
    Calls Try.prog 114 #[v, .func (.func F) #[] caps] w fun e w' => e = .returned (.bool b) ∧ w = w' := by
  obtain ⟨j, hj, hno, hyes⟩ := firstB (fun i => p (xs.getD i 0)) xs.length
  have hI : Hid (∀ {r : Int}, (if j < xs.length then (j : Int) else -1) = r → Calls Try.prog 137 #[v, .func (.func F) #[] caps] w fun e w' => e = .returned (.int .i64 r) ∧ w = w') :=
    fun h => indexFuncE_any v xs F caps p j w ha hj hno hyes hf hE h
  by_cases hlt : j < xs.length
  · have hB : Hid (b = true) := by rw [Hid, ← hb]; exact decide_eq_true ⟨j, hlt, hyes hlt⟩
    have HI := Lib.hid (hI.out (if_pos hlt))
    clear hb hI hf hno hyes ha hlt hE
    go_enter Try.func114, Try.ntmps114
    go_wp2_with fail
    refine HI.out.mono ?_
    rintro e w' ⟨rfl, rfl⟩
    go_wp2_with fail
    go_ret
    exact ⟨by rw [hB.out]; simp, rfl⟩
  · have hB : Hid (b = false) := by
      rw [Hid, ← hb]
      refine decide_eq_false fun ⟨i, hi, h⟩ => ?_
      have := hno i (by omega)
      rw [this] at h; cases h
    have HI := Lib.hid (hI.out (if_neg hlt))
    clear hb hI hf hno hyes ha hlt hE
    go_enter Try.func114, Try.ntmps114
    go_wp2_with fail
    refine HI.out.mono ?_
    rintro e w' ⟨rfl, rfl⟩
    go_wp2_with fail
    go_ret
    exact ⟨by rw [hB.out]; rfl, rfl⟩

/-- no kind of a switch -/
def noSw (x : Int) : Bool := (x != 3) && (x != 4)
theorem noSwitch_any (x : Int) (w : World) :
    Calls Try.prog 112 (#[.int .i64 x] ++ #[]) w fun e w' => e = .returned (.bool (noSw x)) ∧ w = w' := by
  by_cases h3 : x = 3
  · subst h3
    go_enter Try.func112, Try.ntmps112
    go_wp2
    go_ret
    exact ⟨rfl, rfl⟩
  · have hd : (x != 3) = true := by simp [h3]
    have HB : Hid (noSw x = (x != 4)) := by unfold Hid noSw; rw [hd]; rfl
    clear h3
    go_enter Try.func112, Try.ntmps112
    go_wp2
    go_ret
    exact ⟨by rw [HB.out]; rfl, rfl⟩

theorem sw_contains (xs : List Int) : decide (∃ i, i < xs.length ∧ noSw (xs.getD i 0) = true) = !(decide (∀ i, i < xs.length → xs.getD i 0 = 3 ∨ xs.getD i 0 = 4)) := by
  by_cases h : ∀ i, i < xs.length → xs.getD i 0 = 3 ∨ xs.getD i 0 = 4
  · rw [decide_eq_true h]
    refine decide_eq_false fun ⟨i, hi, hx⟩ => ?_
    unfold noSw at hx
    rcases h i hi with e | e <;> rw [e] at hx <;> cases hx
  · rw [decide_eq_false h]
    refine decide_eq_true (Classical.byContradiction fun hno => h fun i hi => Classical.byContradiction fun hx => hno ⟨i, hi, ?_⟩)
    unfold noSw
    have h3 : xs.getD i 0 ≠ 3 := fun e => hx (.inl e)
    have h4 : xs.getD i 0 ≠ 4 := fun e => hx (.inr e)
    rw [bne_iff_ne.2 h3, bne_iff_ne.2 h4]; rfl

theorem areSwitches_any (v : Value) (xs : List Int) (w : World) (ha : Reads w v xs) {b : Bool} (hb : decide (SwOk xs) = b) :
    Calls Try.prog 58 #[v] w fun e w' => e = .returned (.bool b) ∧ w = w' := by
  have HCF := Lib.hid (containsFuncE_any v xs 112 #[] noSw w ha (fun x => noSwitch_any x w) (enters_of Try.func112 (by kernel_rfl) rfl) (sw_contains xs))
  obtain ⟨a, ca, rfl, hm, _⟩ := ha
  unfold maxLen at hm
  by_cases hn : 1 ≤ xs.length ∧ xs.length ≤ 5
  · obtain ⟨h1, h5⟩ := hn
    have HB : Hid (b = !(!(decide (∀ i, i < xs.length → xs.getD i 0 = 3 ∨ xs.getD i 0 = 4)))) := by
      rw [Hid, ← hb, Bool.not_not]
      by_cases h : ∀ i, i < xs.length → xs.getD i 0 = 3 ∨ xs.getD i 0 = 4
      · rw [decide_eq_true h, decide_eq_true (show SwOk xs from ⟨⟨h1, h5⟩, h⟩)]
      · rw [decide_eq_false h, decide_eq_false fun hh : SwOk xs => h hh.2]
    have HY := Lib.hid (fun w => isInputCount_yes (xs.length : Int) w (by omega) (by omega))
    clear hb
    generalize (!(decide (∀ i, i < xs.length → xs.getD i 0 = 3 ∨ xs.getD i 0 = 4))) = c at *
    generalize xs.length = n at *
    go_enter Try.func58, Try.ntmps58
    go_wp2_with (first | (go_at_call 113; (with_reducible refine (HY.out _).mono ?_); rintro e w' ⟨rfl, rfl⟩) | (go_at_call 114; (with_reducible refine (HCF.out).mono ?_); rintro e w' ⟨rfl, rfl⟩))
    go_ret
    exact ⟨by rw [HB.out]; rfl, rfl⟩
  · have HB : Hid (b = false) := by
      rw [Hid, ← hb]
      exact decide_eq_false fun h => hn h.1
    have HY := Lib.hid (fun w => isInputCount_no (xs.length : Int) w (by omega))
    clear hb HCF
    generalize xs.length = n at *
    go_enter Try.func58, Try.ntmps58
    go_wp2_with ((go_at_call 113; (with_reducible refine (HY.out _).mono ?_); rintro e w' ⟨rfl, rfl⟩))
    go_ret
    exact ⟨by rw [HB.out]; rfl, rfl⟩

set_option maxHeartbeats 1000000 in
theorem terminalCount_any (v : Value) (xs : List Int) (w : World) (ha : Reads w v xs) (hs : SwOk xs) {z : Int} (hz : termZ xs xs.length = z) :
    Calls Try.prog 59 #[v] w fun e w' => e = .returned (.int .i64 z) ∧ w = w' := by
  have HA := Lib.hid ha
  obtain ⟨a, ca, rfl, hm, _⟩ := ha
  unfold maxLen at hm
  have Ha : Hid (∀ k, k < xs.length → ∃ b off, a = some ⟨b, off, none⟩ ∧ w.cell? ⟨b, off + k, none⟩ = some (.int .i64 (xs.getD k 0))) := fun k hk => HA.out.cellW hk
  have HS := Lib.hid hs
  have h5 := hs.1.2
  have HBD : Hid (∀ k, k ≤ xs.length → 2 + 3 * (k : Int) ≤ termZ xs k ∧ termZ xs k ≤ 2 + 4 * (k : Int)) := fun k hk => termZ_bd hs hk
  have HZ := Lib.hid hz
  have HST : Hid (∀ k, termZ xs (k + 1) = termZ xs k + xs.getD k 0) := fun k => rfl
  have HGD : Hid (∀ k, k < xs.length → xs.getD k 0 = 3 ∨ xs.getD k 0 = 4) := hs.2
  clear HA hs hz
  generalize hnn : xs.length = n at *
  clear hnn
  go_enter Try.func59, Try.ntmps59
  go_wp2_with fail
  go_loop [3, 8] (fun s c => ∃ (k : Nat) (t : Int), k ≤ n ∧ c = .int .i64 (k : Int) ∧ s = .int .i64 t ∧ Hid (t = termZ xs k)) (fun _ c => n - (intOf c).toNat)
  case atStart => exact ⟨0, 2, Nat.zero_le _, rfl, rfl, rfl⟩
  case round =>
    obtain ⟨k, t, hk, rfl, rfl, HT⟩ := hrel
    by_cases hlt : k < n
    · obtain ⟨b, off, rfl, hca⟩ := Ha.out k hlt
      have hi1 : (k : Int) < (n : Int) := by omega
      have hi0 : (0 : Int) ≤ (k : Int) := by omega
      have hbd := HBD.out k hk
      have hx := HGD.out k hlt
      rw [← HT.out] at hbd
      obtain ⟨t0, t1⟩ := hbd
      have HT' : Hid (t + xs.getD k 0 = termZ xs (k + 1)) := by unfold Hid; rw [HST.out k, ← HT.out]
      have ht : t ≤ 22 := by omega
      have ht0 : 0 ≤ t := by omega
      clear t0 t1
      generalize xs.getD k 0 = x at *
      have hx0 : 0 ≤ x := by omega
      have hx4 : x ≤ 4 := by omega
      clear hx
      go_wp2_with fail
      go_round
      case rel => exact ⟨k + 1, t + x, by omega, by go_num, by go_num, HT'⟩
      case measure => simp [intOf]; omega
    · have e : k = n := by omega
      subst e
      have HE : Hid (t = z) := by unfold Hid; rw [HT.out, HZ.out]
      go_wp2_with fail
      go_ret
      exact ⟨by rw [HE.out]; rfl, rfl⟩

theorem wok_iff (p a b : Int) : WOk p [a, b] ↔ 0 ≤ a ∧ a < b ∧ b < p := by
  unfold WOk; simp
theorem list2 {xs : List Int} (h : xs.length = 2) : ∃ a b, xs = [a, b] := by
  match xs, h with
  | [a, b], _ => exact ⟨a, b, rfl⟩

theorem isWire_bad (a : Option Addr) (n ca : Nat) (p : Int) (w : World) (hl : n ≠ 2) (hm : n ≤ 2 ^ 63 - 1) :
    Calls Try.prog 61 #[.slice a n ca, .int .i64 p] w fun e w' => e = .returned (.bool false) ∧ ∃ m, w' = w.drewN m := by
  have hd : (((n : Nat) : Int) == 2) = false := by simp; omega
  clear hl
  go_enter Try.func61, Try.ntmps61
  go_wp2_with fail
  go_quiet (fail)
  go_wp2
  go_ret
  exact ⟨rfl, _, rfl⟩
theorem isWire_good (b off ca : Nat) (x0 x1 p : Int) (w : World) (c0 : w.cell? ⟨b, off, none⟩ = some (.int .i64 x0)) (c1 : w.cell? ⟨b, off + 1, none⟩ = some (.int .i64 x1)) :
    Calls Try.prog 61 #[.slice (some ⟨b, off, none⟩) 2 ca, .int .i64 p] w fun e w' => e = .returned (.bool (decide (WOk p [x0, x1]))) ∧ ∃ m, w' = w.drewN m := by
  by_cases h0 : 0 ≤ x0
  · by_cases h1 : x0 < x1
    · have hr : Hid (decide (WOk p [x0, x1]) = decide (x1 < p)) := by
        unfold Hid
        by_cases h2 : x1 < p
        · rw [decide_eq_true h2]; exact decide_eq_true ((wok_iff _ _ _).2 ⟨h0, h1, h2⟩)
        · rw [decide_eq_false h2]; exact decide_eq_false fun h => h2 ((wok_iff _ _ _).1 h).2.2
      have d0 : decide (0 ≤ x0) = true := decide_eq_true h0
      have d1 : decide (x0 < x1) = true := decide_eq_true h1
      go_enter Try.func61, Try.ntmps61
      go_wp2_with fail
      go_quiet (fail)
      go_wp2
      go_ret
      exact ⟨by rw [hr.out]; rfl, _, rfl⟩
    · have hr : Hid (decide (WOk p [x0, x1]) = false) := decide_eq_false fun h => h1 ((wok_iff _ _ _).1 h).2.1
      have d0 : decide (0 ≤ x0) = true := decide_eq_true h0
      have d1 : decide (x0 < x1) = false := decide_eq_false h1
      go_enter Try.func61, Try.ntmps61
      go_wp2_with fail
      go_quiet (fail)
      go_wp2
      go_ret
      exact ⟨by rw [hr.out]; rfl, _, rfl⟩
  · have hr : Hid (decide (WOk p [x0, x1]) = false) := decide_eq_false fun h => h0 ((wok_iff _ _ _).1 h).1
    have d0 : decide (0 ≤ x0) = false := decide_eq_false h0
    go_enter Try.func61, Try.ntmps61
    go_wp2_with fail
    go_quiet (fail)
    go_wp2
    go_ret
    exact ⟨by rw [hr.out]; rfl, _, rfl⟩
theorem isWire_any (v : Value) (r : List Int) (p : Int) (w : World) (h : Reads w v r) {b : Bool} (hb : decide (WOk p r) = b) :
    Calls Try.prog 61 #[v, .int .i64 p] w fun e w' => e = .returned (.bool b) ∧ ∃ m, w' = w.drewN m := by
  subst hb
  obtain ⟨a, ca, rfl, hm, h⟩ := h
  unfold maxLen at hm
  by_cases hl : r.length = 2
  · obtain ⟨x0, x1, rfl⟩ := list2 hl
    rcases h with h | ⟨b, off, rfl, h⟩
    · cases h
    · exact isWire_good b off ca x0 x1 p w (by simpa using h 0 (by simp)) (by simpa using h 1 (by simp))
  · have hr : decide (WOk p r) = false := decide_eq_false (fun hc => hl hc.1)
    rw [hr]
    exact isWire_bad a r.length ca p w hl hm

theorem noWire_any (u : Value) (r : List Int) (p : Int) (y z : Value) (bn : Nat) (w : World) (hu : Reads w u r) (h0 : C3 w bn (.int .i64 p) y z) :
    Calls Try.prog 60 (#[u] ++ #[.pointer (some ⟨bn, 0, none⟩)]) w fun e w' => e = .returned (.bool (!(decide (WOk p r)))) ∧ Below w.heap.size w w' := by
  have HW := Lib.hid (isWire_any u r p w hu rfl)
  obtain ⟨a, ca, rfl, hm, _⟩ := hu
  generalize decide (WOk p r) = b at *
  generalize r.length = n at *
  go_enter Try.func60, Try.ntmps60
  go_wp2_with (go_at_call 61; (with_reducible refine (HW.out).mono ?_); rintro e w' ⟨rfl, m, rfl⟩)
  go_ret
  exact ⟨rfl, Bdrew (Below.refl _ _) _⟩

end Go.Proofs.Ytkdidplpnhokiaa
