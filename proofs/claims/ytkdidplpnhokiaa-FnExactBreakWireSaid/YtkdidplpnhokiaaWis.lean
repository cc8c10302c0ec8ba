/- Rwf, WiI, WiJ, FstW, WiS, Wir in one text. -/
import Derived.Test.YtkdidplpnhokiaaWiM
import Derived.Test.YtkdidplpnhokiaaCo0
import Derived.Test.YtkdidplpnhokiaaOwn
import Derived.LoopTactic
import Derived.Shelf.Abstract
import Derived.Test.YtkdidplpnhokiaaCoF
import Derived.Test.YtkdidplpnhokiaaAt
import Derived.Test.YtkdidplpnhokiaaCmp
namespace Go.Proofs.Ytkdidplpnhokiaa
open Go.RowKit
set_option linter.unusedVariables false

set_option maxRecDepth 100000 in
set_option maxHeartbeats 1000000 in
theorem indexFuncRW_any (v : Value) (L : List (List Int)) (F : Nat) (caps : Array Value) (p : List Int → Bool) (j : Nat) (w : World) (ha : Reads2 w v L)
    (hj : j ≤ L.length) (hno : ∀ i, i < j → p (L.getD i []) = false) (hyes : j < L.length → p (L.getD j []) = true)
    (hf : ∀ (u : Value) (x : List Int) (wx : World), Below w.heap.size w wx → Reads wx u x → Calls Try.prog F (#[u] ++ caps) wx fun e w' => e = .returned (.bool (p x)) ∧ Below wx.heap.size wx w')
    (hE : ∀ (args : Array Value) (w : World), (callFunc F args).run Try.prog w = .ok (.enter F args) w) {r : Int} (hr : (if j < L.length then (j : Int) else -1) = r) :
    Calls Try.prog 115 #[v, .func (.func F) #[] caps] w fun e w' => e = .returned (.int .i64 r) ∧ Below w.heap.size w w' := by
  have HA := Lib.hid ha
  obtain ⟨a, ca, rfl, hm, ha'⟩ := ha
  unfold maxLen at hm
  have Ha : Hid (∀ k, k < L.length → ∃ b off u, a = some ⟨b, off, none⟩ ∧ w.cell? ⟨b, off + k, none⟩ = some u ∧ Reads w u (L.getD k [])) := fun k hk => HA.out.cellW hk
  have Hf := Lib.hid hf
  have Hno := Lib.hid hno
  have Hyes := Lib.hid hyes
  have Hr := Lib.hid hr
  clear ha' hf hno hyes hr HA
  generalize hnn : L.length = n at *
  clear hnn
  go_enter Try.func115, Try.ntmps115
  go_wp2_with fail
  go_loopw [8] (fun c wr => ∃ k : Nat, k ≤ j ∧ c = .int .i64 (k : Int) ∧ Below w.heap.size w wr) (fun c _ => n - (intOf c).toNat)
  case atStart => exact ⟨0, Nat.zero_le _, rfl, Below.refl _ _⟩
  case round =>
    obtain ⟨k, hk, rfl, hL⟩ := hrel
    by_cases hlt : k < n
    · obtain ⟨b, off, u, rfl, hca0, hru⟩ := Ha.out k hlt
      have hca := cell_later hL hca0
      have HRU := Lib.hid hru
      have hi1 : (k : Int) < (n : Int) := by omega
      have hi0 : (0 : Int) ≤ (k : Int) := by omega
      by_cases hkj : k < j
      · have HC : Hid (∀ wx, Below w.heap.size w wx → Calls Try.prog F (#[u] ++ caps) wx fun e w' => e = .returned (.bool false) ∧ Below wx.heap.size wx w') := fun wx hb => by
          have := Hf.out u (L.getD k []) wx hb (HRU.out.keep hb)
          rwa [Hno.out k hkj] at this
        clear hca0 hru
        go_wp2_with ((with_reducible refine (HC.out _ (by first | exact hL | go_grown)).mono ?_); rintro e w' ⟨rfl, hb⟩; have hL := chain (B := w.heap.size) (a := w) hL (Nat.le_refl _) hb; clear hb)
        go_roundw
        case rel => exact ⟨k + 1, by omega, by go_num, hL⟩
        case measure => simp [intOf]; omega
      · have e : k = j := by omega
        subst e
        have HC : Hid (∀ wx, Below w.heap.size w wx → Calls Try.prog F (#[u] ++ caps) wx fun e w' => e = .returned (.bool true) ∧ Below wx.heap.size wx w') := fun wx hb => by
          have := Hf.out u (L.getD k []) wx hb (HRU.out.keep hb)
          rwa [Hyes.out hlt] at this
        have HR : Hid (r = (k : Int)) := by have := Hr.out; rw [if_pos hlt] at this; exact this.symm
        clear hca0 hru
        go_wp2_with ((with_reducible refine (HC.out _ (by first | exact hL | go_grown)).mono ?_); rintro e w' ⟨rfl, hb⟩; have hL := chain (B := w.heap.size) (a := w) hL (Nat.le_refl _) hb; clear hb)
        go_ret
        exact ⟨by rw [HR.out]; rfl, hL⟩
    · have HR : Hid (r = -1) := by have := Hr.out; rw [if_neg (by omega)] at this; exact this.symm
      go_wp2_with fail
      go_ret
      exact ⟨by rw [HR.out]; rfl, hL⟩

theorem containsFuncRW_any (v : Value) (L : List (List Int)) (F : Nat) (caps : Array Value) (p : List Int → Bool) (w : World) (ha : Reads2 w v L)
    (hf : ∀ (u : Value) (x : List Int) (wx : World), Below w.heap.size w wx → Reads wx u x → Calls Try.prog F (#[u] ++ caps) wx fun e w' => e = .returned (.bool (p x)) ∧ Below wx.heap.size wx w')
    (hE : ∀ (args : Array Value) (w : World), (callFunc F args).run Try.prog w = .ok (.enter F args) w) {b : Bool} (hb : decide (∃ i, i < L.length ∧ p (L.getD i []) = true) = b) :
    Calls Try.prog 62 #[v, .func (.func F) #[] caps] w fun e w' => e = .returned (.bool b) ∧ Below w.heap.size w w' := by
  obtain ⟨j, hj, hno, hyes⟩ := firstB (fun i => p (L.getD i [])) L.length
  have hI : Hid (∀ {r : Int}, (if j < L.length then (j : Int) else -1) = r → Calls Try.prog 115 #[v, .func (.func F) #[] caps] w fun e w' => e = .returned (.int .i64 r) ∧ Below w.heap.size w w') :=
    fun h => indexFuncRW_any v L F caps p j w ha hj hno hyes hf hE h
  by_cases hlt : j < L.length
  · have hB : Hid (b = true) := by
      rw [Hid, ← hb]
      exact decide_eq_true ⟨j, hlt, hyes hlt⟩
    have HI := Lib.hid (hI.out (if_pos hlt))
    clear hb hI hf hno hyes ha hlt hE
    go_enter Try.func62, Try.ntmps62
    go_wp2_with fail
    refine HI.out.mono ?_
    rintro e w' ⟨rfl, hL⟩
    go_wp2_with fail
    go_ret
    exact ⟨by rw [hB.out]; simp, hL⟩
  · have hB : Hid (b = false) := by
      rw [Hid, ← hb]
      refine decide_eq_false fun ⟨i, hi, h⟩ => ?_
      have := hno i (by omega)
      rw [this] at h; cases h
    have HI := Lib.hid (hI.out (if_neg hlt))
    clear hb hI hf hno hyes ha hlt hE
    go_enter Try.func62, Try.ntmps62
    go_wp2_with fail
    refine HI.out.mono ?_
    rintro e w' ⟨rfl, hL⟩
    go_wp2_with fail
    go_ret
    exact ⟨by rw [hB.out]; rfl, hL⟩

set_option maxRecDepth 100000 in
set_option maxHeartbeats 1000000 in
/-- a predicate that leaves memory as it is -/
theorem indexFuncE_any (v : Value) (xs : List Int) (F : Nat) (caps : Array Value) (p : Int → Bool) (j : Nat) (w : World) (ha : Reads w v xs)
    (hj : j ≤ xs.length) (hno : ∀ i, i < j → p (xs.getD i 0) = false) (hyes : j < xs.length → p (xs.getD j 0) = true)
    (hf : ∀ (x : Int), Calls Try.prog F (#[.int .i64 x] ++ caps) w fun e w' => e = .returned (.bool (p x)) ∧ w = w')
    (hE : ∀ (args : Array Value) (w : World), (callFunc F args).run Try.prog w = .ok (.enter F args) w) {r : Int} (hr : (if j < xs.length then (j : Int) else -1) = r) :
    Calls Try.prog 137 #[v, .func (.func F) #[] caps] w fun e w' => e = .returned (.int .i64 r) ∧ w = w' := by
  obtain ⟨a, ca, rfl, hm, ha'⟩ := ha
  unfold maxLen at hm
  have Ha : Hid (∀ i, i < xs.length → ∃ b off, a = some ⟨b, off, none⟩ ∧ w.cell? ⟨b, off + i, none⟩ = some (.int .i64 (xs.getD i 0))) := by
    rcases ha' with rfl | ⟨b, off, rfl, ha'⟩
    · intro i hi; simp at hi
    · intro i hi; exact ⟨b, off, rfl, ha' i hi⟩
  have Hf := Lib.hid hf
  have Hno := Lib.hid hno
  have Hyes := Lib.hid hyes
  have Hr := Lib.hid hr
  clear ha' hf hno hyes hr
  generalize hnn : xs.length = n at *
  clear hnn
  go_enter Try.func137, Try.ntmps137
  go_wp2_with fail
  go_loop [8] (fun c => ∃ k : Nat, k ≤ j ∧ c = .int .i64 (k : Int)) (fun c => n - (intOf c).toNat)
  case atStart => exact ⟨0, Nat.zero_le _, rfl⟩
  case round =>
    obtain ⟨k, hk, rfl⟩ := hrel
    by_cases hlt : k < n
    · obtain ⟨b, off, rfl, hca⟩ := Ha.out k hlt
      have hi1 : (k : Int) < (n : Int) := by omega
      have hi0 : (0 : Int) ≤ (k : Int) := by omega
      by_cases hkj : k < j
      · have HC : Hid (Calls Try.prog F (#[.int .i64 (xs.getD k 0)] ++ caps) w fun e w' => e = .returned (.bool false) ∧ w = w') := by
          have := Hf.out (xs.getD k 0)
          rwa [Hno.out k hkj] at this
        generalize xs.getD k 0 = x at *
        go_wp2_with ((with_reducible refine (HC.out).mono ?_); rintro e w' ⟨rfl, rfl⟩)
        go_round
        case rel => exact ⟨k + 1, by omega, by go_num⟩
        case measure => simp [intOf]; omega
      · have e : k = j := by omega
        subst e
        have HC : Hid (Calls Try.prog F (#[.int .i64 (xs.getD k 0)] ++ caps) w fun e w' => e = .returned (.bool true) ∧ w = w') := by
          have := Hf.out (xs.getD k 0)
          rwa [Hyes.out hlt] at this
        have HR : Hid (r = (k : Int)) := by have := Hr.out; rw [if_pos hlt] at this; exact this.symm
        generalize xs.getD k 0 = x at *
        go_wp2_with ((with_reducible refine (HC.out).mono ?_); rintro e w' ⟨rfl, rfl⟩)
        go_ret
        exact ⟨by rw [HR.out]; rfl, rfl⟩
    · have HR : Hid (r = -1) := by have := Hr.out; rw [if_neg (by omega)] at this; exact this.symm
      go_wp2_with fail
      go_ret
      exact ⟨by rw [HR.out]; rfl, rfl⟩

theorem containsFuncE_any (v : Value) (xs : List Int) (F : Nat) (caps : Array Value) (p : Int → Bool) (w : World) (ha : Reads w v xs)
    (hf : ∀ (x : Int), Calls Try.prog F (#[.int .i64 x] ++ caps) w fun e w' => e = .returned (.bool (p x)) ∧ w = w')
    (hE : ∀ (args : Array Value) (w : World), (callFunc F args).run Try.prog w = .ok (.enter F args) w) {b : Bool} (hb : decide (∃ i, i < xs.length ∧ p (xs.getD i 0) = true) = b) :
    Calls Try.prog 114 #[v, .func (.func F) #[] caps] w fun e w' => e = .returned (.bool b) ∧ w = w' := by
  obtain ⟨j, hj, hno, hyes⟩ := firstB (fun i => p (xs.getD i 0)) xs.length
  have hI : Hid (∀ {r : Int}, (if j < xs.length then (j : Int) else -1) = r → Calls Try.prog 137 #[v, .func (.func F) #[] caps] w fun e w' => e = .returned (.int .i64 r) ∧ w = w') :=
    fun h => indexFuncE_any v xs F caps p j w ha hj hno hyes hf hE h
  by_cases hlt : j < xs.length
  · have hB : Hid (b = true) := by rw [Hid, ← hb]; exact decide_eq_true ⟨j, hlt, hyes hlt⟩
    have HI := Lib.hid (hI.out (if_pos hlt))
    clear hb hI hf hno hyes ha hlt hE
    go_enter Try.func114, Try.ntmps114
    go_wp2_with fail
    refine HI.out.mono ?_
    rintro e w' ⟨rfl, rfl⟩
    go_wp2_with fail
    go_ret
    exact ⟨by rw [hB.out]; simp, rfl⟩
  · have hB : Hid (b = false) := by
      rw [Hid, ← hb]
      refine decide_eq_false fun ⟨i, hi, h⟩ => ?_
      have := hno i (by omega)
      rw [this] at h; cases h
    have HI := Lib.hid (hI.out (if_neg hlt))
    clear hb hI hf hno hyes ha hlt hE
    go_enter Try.func114, Try.ntmps114
    go_wp2_with fail
    refine HI.out.mono ?_
    rintro e w' ⟨rfl, rfl⟩
    go_wp2_with fail
    go_ret
    exact ⟨by rw [hB.out]; rfl, rfl⟩

/-- no kind of a switch -/
def noSw (x : Int) : Bool := (x != 3) && (x != 4)
theorem noSwitch_any (x : Int) (w : World) :
    Calls Try.prog 112 (#[.int .i64 x] ++ #[]) w fun e w' => e = .returned (.bool (noSw x)) ∧ w = w' := by
  by_cases h3 : x = 3
  · subst h3
    go_enter Try.func112, Try.ntmps112
    go_wp2
    go_ret
    exact ⟨rfl, rfl⟩
  · have hd : (x != 3) = true := by simp [h3]
    have HB : Hid (noSw x = (x != 4)) := by unfold Hid noSw; rw [hd]; rfl
    clear h3
    go_enter Try.func112, Try.ntmps112
    go_wp2
    go_ret
    exact ⟨by rw [HB.out]; rfl, rfl⟩

theorem sw_contains (xs : List Int) : decide (∃ i, i < xs.length ∧ noSw (xs.getD i 0) = true) = !(decide (∀ i, i < xs.length → xs.getD i 0 = 3 ∨ xs.getD i 0 = 4)) := by
  by_cases h : ∀ i, i < xs.length → xs.getD i 0 = 3 ∨ xs.getD i 0 = 4
  · rw [decide_eq_true h]
    refine decide_eq_false fun ⟨i, hi, hx⟩ => ?_
    unfold noSw at hx
    rcases h i hi with e | e <;> rw [e] at hx <;> cases hx
  · rw [decide_eq_false h]
    refine decide_eq_true (Classical.byContradiction fun hno => h fun i hi => Classical.byContradiction fun hx => hno ⟨i, hi, ?_⟩)
    unfold noSw
    have h3 : xs.getD i 0 ≠ 3 := fun e => hx (.inl e)
    have h4 : xs.getD i 0 ≠ 4 := fun e => hx (.inr e)
    rw [bne_iff_ne.2 h3, bne_iff_ne.2 h4]; rfl

theorem areSwitches_any (v : Value) (xs : List Int) (w : World) (ha : Reads w v xs) {b : Bool} (hb : decide (SwOk xs) = b) :
    Calls Try.prog 58 #[v] w fun e w' => e = .returned (.bool b) ∧ w = w' := by
  have HCF := Lib.hid (containsFuncE_any v xs 112 #[] noSw w ha (fun x => noSwitch_any x w) (enters_of Try.func112 (by kernel_rfl) rfl) (sw_contains xs))
  obtain ⟨a, ca, rfl, hm, _⟩ := ha
  unfold maxLen at hm
  by_cases hn : 1 ≤ xs.length ∧ xs.length ≤ 5
  · obtain ⟨h1, h5⟩ := hn
    have HB : Hid (b = !(!(decide (∀ i, i < xs.length → xs.getD i 0 = 3 ∨ xs.getD i 0 = 4)))) := by
      rw [Hid, ← hb, Bool.not_not]
      by_cases h : ∀ i, i < xs.length → xs.getD i 0 = 3 ∨ xs.getD i 0 = 4
      · rw [decide_eq_true h, decide_eq_true (show SwOk xs from ⟨⟨h1, h5⟩, h⟩)]
      · rw [decide_eq_false h, decide_eq_false fun hh : SwOk xs => h hh.2]
    have HY := Lib.hid (fun w => isInputCount_yes (xs.length : Int) w (by omega) (by omega))
    clear hb
    generalize (!(decide (∀ i, i < xs.length → xs.getD i 0 = 3 ∨ xs.getD i 0 = 4))) = c at *
    generalize xs.length = n at *
    go_enter Try.func58, Try.ntmps58
    go_wp2_with (first | (go_at_call 113; (with_reducible refine (HY.out _).mono ?_); rintro e w' ⟨rfl, rfl⟩) | (go_at_call 114; (with_reducible refine (HCF.out).mono ?_); rintro e w' ⟨rfl, rfl⟩))
    go_ret
    exact ⟨by rw [HB.out]; rfl, rfl⟩
  · have HB : Hid (b = false) := by
      rw [Hid, ← hb]
      exact decide_eq_false fun h => hn h.1
    have HY := Lib.hid (fun w => isInputCount_no (xs.length : Int) w (by omega))
    clear hb HCF
    generalize xs.length = n at *
    go_enter Try.func58, Try.ntmps58
    go_wp2_with ((go_at_call 113; (with_reducible refine (HY.out _).mono ?_); rintro e w' ⟨rfl, rfl⟩))
    go_ret
    exact ⟨by rw [HB.out]; rfl, rfl⟩

set_option maxHeartbeats 1000000 in
theorem terminalCount_any (v : Value) (xs : List Int) (w : World) (ha : Reads w v xs) (hs : SwOk xs) {z : Int} (hz : termZ xs xs.length = z) :
    Calls Try.prog 59 #[v] w fun e w' => e = .returned (.int .i64 z) ∧ w = w' := by
  have HA := Lib.hid ha
  obtain ⟨a, ca, rfl, hm, _⟩ := ha
  unfold maxLen at hm
  have Ha : Hid (∀ k, k < xs.length → ∃ b off, a = some ⟨b, off, none⟩ ∧ w.cell? ⟨b, off + k, none⟩ = some (.int .i64 (xs.getD k 0))) := fun k hk => HA.out.cellW hk
  have HS := Lib.hid hs
  have h5 := hs.1.2
  have HBD : Hid (∀ k, k ≤ xs.length → 2 + 3 * (k : Int) ≤ termZ xs k ∧ termZ xs k ≤ 2 + 4 * (k : Int)) := fun k hk => termZ_bd hs hk
  have HZ := Lib.hid hz
  have HST : Hid (∀ k, termZ xs (k + 1) = termZ xs k + xs.getD k 0) := fun k => rfl
  have HGD : Hid (∀ k, k < xs.length → xs.getD k 0 = 3 ∨ xs.getD k 0 = 4) := hs.2
  clear HA hs hz
  generalize hnn : xs.length = n at *
  clear hnn
  go_enter Try.func59, Try.ntmps59
  go_wp2_with fail
  go_loop [3, 8] (fun s c => ∃ (k : Nat) (t : Int), k ≤ n ∧ c = .int .i64 (k : Int) ∧ s = .int .i64 t ∧ Hid (t = termZ xs k)) (fun _ c => n - (intOf c).toNat)
  case atStart => exact ⟨0, 2, Nat.zero_le _, rfl, rfl, rfl⟩
  case round =>
    obtain ⟨k, t, hk, rfl, rfl, HT⟩ := hrel
    by_cases hlt : k < n
    · obtain ⟨b, off, rfl, hca⟩ := Ha.out k hlt
      have hi1 : (k : Int) < (n : Int) := by omega
      have hi0 : (0 : Int) ≤ (k : Int) := by omega
      have hbd := HBD.out k hk
      have hx := HGD.out k hlt
      rw [← HT.out] at hbd
      obtain ⟨t0, t1⟩ := hbd
      have HT' : Hid (t + xs.getD k 0 = termZ xs (k + 1)) := by unfold Hid; rw [HST.out k, ← HT.out]
      have ht : t ≤ 22 := by omega
      have ht0 : 0 ≤ t := by omega
      clear t0 t1
      generalize xs.getD k 0 = x at *
      have hx0 : 0 ≤ x := by omega
      have hx4 : x ≤ 4 := by omega
      clear hx
      go_wp2_with fail
      go_round
      case rel => exact ⟨k + 1, t + x, by omega, by go_num, by go_num, HT'⟩
      case measure => simp [intOf]; omega
    · have e : k = n := by omega
      subst e
      have HE : Hid (t = z) := by unfold Hid; rw [HT.out, HZ.out]
      go_wp2_with fail
      go_ret
      exact ⟨by rw [HE.out]; rfl, rfl⟩

theorem wok_iff (p a b : Int) : WOk p [a, b] ↔ 0 ≤ a ∧ a < b ∧ b < p := by
  unfold WOk; simp
theorem list2 {xs : List Int} (h : xs.length = 2) : ∃ a b, xs = [a, b] := by
  match xs, h with
  | [a, b], _ => exact ⟨a, b, rfl⟩

theorem isWire_bad (a : Option Addr) (n ca : Nat) (p : Int) (w : World) (hl : n ≠ 2) (hm : n ≤ 2 ^ 63 - 1) :
    Calls Try.prog 61 #[.slice a n ca, .int .i64 p] w fun e w' => e = .returned (.bool false) ∧ ∃ m, w' = w.drewN m := by
  have hd : (((n : Nat) : Int) == 2) = false := by simp; omega
  clear hl
  go_enter Try.func61, Try.ntmps61
  go_wp2_with fail
  go_quiet (fail)
  go_wp2
  go_ret
  exact ⟨rfl, _, rfl⟩
theorem isWire_good (b off ca : Nat) (x0 x1 p : Int) (w : World) (c0 : w.cell? ⟨b, off, none⟩ = some (.int .i64 x0)) (c1 : w.cell? ⟨b, off + 1, none⟩ = some (.int .i64 x1)) :
    Calls Try.prog 61 #[.slice (some ⟨b, off, none⟩) 2 ca, .int .i64 p] w fun e w' => e = .returned (.bool (decide (WOk p [x0, x1]))) ∧ ∃ m, w' = w.drewN m := by
  by_cases h0 : 0 ≤ x0
  · by_cases h1 : x0 < x1
    · have hr : Hid (decide (WOk p [x0, x1]) = decide (x1 < p)) := by
        unfold Hid
        by_cases h2 : x1 < p
        · rw [decide_eq_true h2]; exact decide_eq_true ((wok_iff _ _ _).2 ⟨h0, h1, h2⟩)
        · rw [decide_eq_false h2]; exact decide_eq_false fun h => h2 ((wok_iff _ _ _).1 h).2.2
      have d0 : decide (0 ≤ x0) = true := decide_eq_true h0
      have d1 : decide (x0 < x1) = true := decide_eq_true h1
      go_enter Try.func61, Try.ntmps61
      go_wp2_with fail
      go_quiet (fail)
      go_wp2
      go_ret
      exact ⟨by rw [hr.out]; rfl, _, rfl⟩
    · have hr : Hid (decide (WOk p [x0, x1]) = false) := decide_eq_false fun h => h1 ((wok_iff _ _ _).1 h).2.1
      have d0 : decide (0 ≤ x0) = true := decide_eq_true h0
      have d1 : decide (x0 < x1) = false := decide_eq_false h1
      go_enter Try.func61, Try.ntmps61
      go_wp2_with fail
      go_quiet (fail)
      go_wp2
      go_ret
      exact ⟨by rw [hr.out]; rfl, _, rfl⟩
  · have hr : Hid (decide (WOk p [x0, x1]) = false) := decide_eq_false fun h => h0 ((wok_iff _ _ _).1 h).1
    have d0 : decide (0 ≤ x0) = false := decide_eq_false h0
    go_enter Try.func61, Try.ntmps61
    go_wp2_with fail
    go_quiet (fail)
    go_wp2
    go_ret
    exact ⟨by rw [hr.out]; rfl, _, rfl⟩
theorem isWire_any (v : Value) (r : List Int) (p : Int) (w : World) (h : Reads w v r) {b : Bool} (hb : decide (WOk p r) = b) :
    Calls Try.prog 61 #[v, .int .i64 p] w fun e w' => e = .returned (.bool b) ∧ ∃ m, w' = w.drewN m := by
  subst hb
  obtain ⟨a, ca, rfl, hm, h⟩ := h
  unfold maxLen at hm
  by_cases hl : r.length = 2
  · obtain ⟨x0, x1, rfl⟩ := list2 hl
    rcases h with h | ⟨b, off, rfl, h⟩
    · cases h
    · exact isWire_good b off ca x0 x1 p w (by simpa using h 0 (by simp)) (by simpa using h 1 (by simp))
  · have hr : decide (WOk p r) = false := decide_eq_false (fun hc => hl hc.1)
    rw [hr]
    exact isWire_bad a r.length ca p w hl hm

theorem noWire_any (u : Value) (r : List Int) (p : Int) (y z : Value) (bn : Nat) (w : World) (hu : Reads w u r) (h0 : C3 w bn (.int .i64 p) y z) :
    Calls Try.prog 60 (#[u] ++ #[.pointer (some ⟨bn, 0, none⟩)]) w fun e w' => e = .returned (.bool (!(decide (WOk p r)))) ∧ Below w.heap.size w w' := by
  have HW := Lib.hid (isWire_any u r p w hu rfl)
  obtain ⟨a, ca, rfl, hm, _⟩ := hu
  generalize decide (WOk p r) = b at *
  generalize r.length = n at *
  go_enter Try.func60, Try.ntmps60
  go_wp2_with (go_at_call 61; (with_reducible refine (HW.out).mono ?_); rintro e w' ⟨rfl, m, rfl⟩)
  go_ret
  exact ⟨rfl, Bdrew (Below.refl _ _) _⟩

/-- are rows in order -/
def sortedB (yss : List (List Int)) : Bool := decide (∀ i, i < yss.length → 0 < i → 0 ≤ cmpL (yss.getD i []) (yss.getD (i - 1) []))
theorem sorted_no {yss : List (List Int)} {i : Nat} (hi : i < yss.length) (h0 : 0 < i) (h : cmpL (yss.getD i []) (yss.getD (i - 1) []) < 0) : sortedB yss = false :=
  decide_eq_false fun hh => by have := hh i hi h0; omega
theorem compare2 (va vb : Value) (xs ys : List Int) (w : World) (ha : Reads w va xs) (hb : Reads w vb ys) (lx : xs.length = 2) (ly : ys.length = 2) {z : Int} (hz : cmpL xs ys = z) :
    Calls Try.prog 64 #[va, vb] w fun e w' => e = .returned (.int .i64 z) ∧ w = w' := by
  obtain ⟨a, ca, rfl, _, ha⟩ := ha
  obtain ⟨b, cb, rfl, _, hb⟩ := hb
  rcases ha with rfl | ⟨b, off, rfl, ha⟩
  · cases lx
  · rcases hb with rfl | ⟨b', off', rfl, hb⟩
    · cases ly
    · subst hz
      exact compare_mem b off ca b' off' cb xs.length ys.length xs ys w rfl rfl (by omega) (by omega) ha hb

set_option maxRecDepth 100000 in
set_option maxHeartbeats 1000000 in
theorem isSorted_any (v : Value) (yss : List (List Int)) (w : World) (ha : Reads2 w v yss) (h2 : ∀ i, i < yss.length → (yss.getD i []).length = 2) {b : Bool} (hb : sortedB yss = b) :
    Calls Try.prog 63 #[v, .func (.func 64) #[] #[]] w fun e w' => e = .returned (.bool b) ∧ Below w.heap.size w w' := by
  have HA := Lib.hid ha
  obtain ⟨a, ca, rfl, hm, _⟩ := ha
  unfold maxLen at hm
  have Ha : Hid (∀ k, k < yss.length → ∃ b off u, a = some ⟨b, off, none⟩ ∧ w.cell? ⟨b, off + k, none⟩ = some u ∧ Reads w u (yss.getD k [])) := fun k hk => HA.out.cellW hk
  have H2 := Lib.hid h2
  have HNO : Hid (∀ i, i < yss.length → 0 < i → cmpL (yss.getD i []) (yss.getD (i - 1) []) < 0 → b = false) := fun i hi h0 h => hb ▸ sorted_no hi h0 h
  have HYES : Hid ((∀ i, i < yss.length → 0 < i → 0 ≤ cmpL (yss.getD i []) (yss.getD (i - 1) [])) → b = true) := fun h => hb ▸ decide_eq_true h
  clear HA h2 hb
  generalize hnn : yss.length = n at *
  clear hnn
  go_enter Try.func63, Try.ntmps63
  go_wp2_with fail
  go_loopw [5] (fun c wr => ∃ k : Int, -1 ≤ k ∧ k < (n : Int) ∧ c = .int .i64 k ∧ Below w.heap.size w wr ∧ Hid (∀ i : Nat, k < (i : Int) → i < n → 0 < i → 0 ≤ cmpL (yss.getD i []) (yss.getD (i - 1) []))) (fun c _ => (intOf c).toNat)
  case atStart => exact ⟨(n : Int) - 1, by omega, by omega, by go_num, Below.refl _ _, fun i h1 h2 => by omega⟩
  case round =>
    obtain ⟨k, hk0, hk1, rfl, hL, HR⟩ := hrel
    by_cases hlt : 0 < k
    · obtain ⟨K, rfl⟩ : ∃ K : Nat, k = (K : Int) + 1 := ⟨(k - 1).toNat, by omega⟩
      obtain ⟨ab, off, u, rfl, hca0, hru⟩ := Ha.out (K + 1) (by omega)
      obtain ⟨ab', off', u', e', hcb0, hru'⟩ := Ha.out K (by omega)
      obtain ⟨rfl, rfl⟩ : ab = ab' ∧ off = off' := by simpa using e'
      have hca := cell_later hL hca0
      have hcb := cell_later hL hcb0
      have R1 := Lib.hid (hru.keep hL)
      have R2 := Lib.hid (hru'.keep hL)
      have L1 := Lib.hid (H2.out (K + 1) (by omega))
      have L2 := Lib.hid (H2.out K (by omega))
      have hi1 : (K : Int) + 1 < (n : Int) := by omega
      have hi0 : (0 : Int) ≤ (K : Int) + 1 := by omega
      have hj1 : (K : Int) < (n : Int) := by omega
      have hj0 : (0 : Int) ≤ (K : Int) := by omega
      have ht : ((K : Int) + 1).toNat = K + 1 := by omega
      have hs : (K : Int) + 1 - 1 = (K : Int) := by omega
      have HB := HNO.out (K + 1) (by omega) (by omega)
      have HG : Hid (0 ≤ cmpL (yss.getD (K + 1) []) (yss.getD K []) → ∀ i : Nat, (K : Int) < (i : Int) → i < n → 0 < i → 0 ≤ cmpL (yss.getD i []) (yss.getD (i - 1) [])) := fun hh i h1 h2 h3 => by
        by_cases e : i = K + 1
        · subst e; simpa using hh
        · exact HR.out i (by omega) h2 h3
      simp only [Nat.add_sub_cancel] at HB
      have HB' := Lib.hid HB
      clear hca0 hcb0 hru hru' HB e' HR
      obtain ⟨z, hz⟩ : ∃ z, cmpL (yss.getD (K + 1) []) (yss.getD K []) = z := ⟨_, rfl⟩
      have HZ := Lib.hid hz
      rw [hz] at HB' HG
      clear hz
      by_cases hneg : z < 0
      · have HBF := Lib.hid (HB'.out hneg)
        go_wp2_with fail
        go_quiet ((go_at_call 64; exact quiet1 (compare2 _ _ _ _ _ (R1.out.keep (Bdrew (Below.refl _ _) _)) (R2.out.keep (Bdrew (Below.refl _ _) _)) L1.out L2.out HZ.out)))
        go_wp2_with fail
        go_ret
        exact ⟨by rw [HBF.out]; rfl, Bdrew hL _⟩
      · have HGT := Lib.hid (HG.out (by omega))
        go_wp2_with fail
        go_quiet ((go_at_call 64; exact quiet1 (compare2 _ _ _ _ _ (R1.out.keep (Bdrew (Below.refl _ _) _)) (R2.out.keep (Bdrew (Below.refl _ _) _)) L1.out L2.out HZ.out)))
        go_wp2_with fail
        go_roundw
        case rel => exact ⟨(K : Int), by omega, by omega, by go_num, Bdrew hL _, HGT⟩
        case measure => first | (simp [intOf]; done) | (simp [intOf]; omega)
    · have HBT : Hid (b = true) := HYES.out fun i hi h0 => HR.out i (by omega) hi h0
      have hge : ¬ 0 < k := hlt
      go_wp2_with fail
      go_ret
      exact ⟨by rw [HBT.out]; rfl, hL⟩

theorem wire_contains (p : Int) (yss : List (List Int)) : decide (∃ i, i < yss.length ∧ (!(decide (WOk p (yss.getD i [])))) = true) = !(decide (∀ i, i < yss.length → WOk p (yss.getD i []))) := by
  by_cases h : ∀ i, i < yss.length → WOk p (yss.getD i [])
  · rw [decide_eq_true h]
    refine decide_eq_false fun ⟨i, hi, hx⟩ => ?_
    rw [decide_eq_true (h i hi)] at hx; cases hx
  · rw [decide_eq_false h]
    refine decide_eq_true (Classical.byContradiction fun hno => h fun i hi => Classical.byContradiction fun hx => hno ⟨i, hi, ?_⟩)
    rw [decide_eq_false hx]; rfl
theorem wir_split {p : Int} {xs : List Int} {yss : List (List Int)} (h1 : SwOk xs) (h2 : p = termZ xs xs.length) (h3 : yss.length ≤ 16) :
    wirB p xs yss = ((decide (∀ i, i < yss.length → WOk p (yss.getD i []))) && sortedB yss) := by
  unfold wirB sortedB
  by_cases h4 : ∀ i, i < yss.length → WOk p (yss.getD i [])
  · rw [decide_eq_true h4, Bool.true_and]
    by_cases h5 : ∀ i, i < yss.length → 0 < i → 0 ≤ cmpL (yss.getD i []) (yss.getD (i - 1) [])
    · rw [decide_eq_true h5]
      exact decide_eq_true ⟨h1, h2, h3, fun i hi => ⟨h4 i hi, h5 i hi⟩⟩
    · rw [decide_eq_false h5]
      exact decide_eq_false fun h => h5 fun i hi => (h.2.2.2 i hi).2
  · rw [decide_eq_false h4, Bool.false_and]
    exact decide_eq_false fun h => h4 fun i hi => (h.2.2.2 i hi).1

set_option maxRecDepth 100000 in
set_option maxHeartbeats 1000000 in
theorem isWiring_any (v : Value) (p : Int) (xs : List Int) (yss : List (List Int)) (w : World) (ha : ReadsW w v p xs yss) {b : Bool} (hb : wirB p xs yss = b) :
    Calls Try.prog 18 #[v] w fun e w' => e = .returned (.bool b) ∧ Below w.heap.size w w' := by
  obtain ⟨a, ca, b', cb, rfl, h1, h2⟩ := ha
  obtain ⟨d, hd⟩ : ∃ d, decide (SwOk xs) = d := ⟨_, rfl⟩
  have HAS : Hid (∀ w', Below w.heap.size w w' → Calls Try.prog 58 #[.slice a xs.length ca] w' fun e w'' => e = .returned (.bool d) ∧ w' = w'') := fun w' h => areSwitches_any _ xs w' (h1.keep h) hd
  have h0 := C3.here w (.int .i64 p) (.slice a xs.length ca) (.slice b' yss.length cb) 28
  have hm2 : yss.length ≤ 2 ^ 63 - 1 := by obtain ⟨_, _, _, hm, _⟩ := h2; exact hm
  cases d
  · have HB : Hid (b = false) := by rw [Hid, ← hb]; exact decide_eq_false fun h => (of_decide_eq_false hd) h.1
    clear hb hd h1 h2
    generalize xs.length = n at *
    generalize yss.length = m at *
    go_enter Try.func18, Try.ntmps18
    go_wp2_with fail
    go_quiet ((go_at_call 58; exact quiet1 (HAS.out _ (Bdrew (by go_grown) _))))
    go_wp2_with fail
    go_ret
    exact ⟨by rw [HB.out]; rfl, by first | (with_reducible exact hL) | (with_reducible refine Bdrew ?_ _; go_grown; done) | go_grown⟩
  · have hs : SwOk xs := of_decide_eq_true hd
    obtain ⟨z, hz⟩ : ∃ z, termZ xs xs.length = z := ⟨_, rfl⟩
    have HTC : Hid (∀ w', Below w.heap.size w w' → Calls Try.prog 59 #[.slice a xs.length ca] w' fun e w'' => e = .returned (.int .i64 z) ∧ w' = w'') := fun w' h => terminalCount_any _ xs w' (h1.keep h) hs hz
    by_cases hp : p = z
    · by_cases h16 : yss.length ≤ 16
      · have hsp := wir_split (p := p) (yss := yss) hs (by rw [hz]; exact hp) h16
        obtain ⟨c, hc⟩ : ∃ c, decide (∀ i, i < yss.length → WOk p (yss.getD i [])) = c := ⟨_, rfl⟩
        have hpp : (p != z) = false := by simp [hp]
        have hbig : ¬ (16 : Int) < (yss.length : Int) := by omega
        have HCF := Lib.hid (fun w' bn (hk : Below w.heap.size w w') (h : C3 w' bn (.int .i64 p) (.slice a xs.length ca) (.slice b' yss.length cb)) => containsFuncRW_any (.slice b' yss.length cb) yss 60 #[.pointer (some ⟨bn, 0, none⟩)] (fun r => !(decide (WOk p r))) w' (h2.keep hk) (fun u x wx hx hu => noWire_any u x p _ _ bn wx hu (h.keep hx)) (enters_of Try.func60 (by kernel_rfl) rfl) (wire_contains p yss))
        rw [hc] at hsp HCF
        cases c
        · have HB : Hid (b = false) := by rw [Hid, ← hb, hsp]; rfl
          clear hb hd h1 hz hp h2 hs hsp hc
          generalize xs.length = n at *
          generalize yss.length = m at *
          go_enter Try.func18, Try.ntmps18
          go_wp2_with fail
          go_quiet ((first | (go_at_call 58; exact quiet1 (HAS.out _ (Bdrew (by go_grown) _))) | (go_at_call 59; exact quiet1 (HTC.out _ (Bdrew (by go_grown) _)))))
          go_wp2_with ((go_at_call 62; (with_reducible refine (HCF.out _ _ (Bdrew (by go_grown) _) (h0.drewUN _)).mono ?_); rintro e w1 ⟨rfl, hb⟩; have hL := chain (B := w.heap.size) (a := w) (Bdrew (by go_grown) _) (Nat.le_refl _) hb; replace h0 := keepAt3 hb (h0.drewUN _); clear hb))
          go_ret
          exact ⟨by rw [HB.out]; rfl, by first | (with_reducible exact hL) | (with_reducible refine Bdrew ?_ _; go_grown; done) | go_grown⟩
        · have HB : Hid (sortedB yss = b) := by rw [Hid, ← hb, hsp]; rfl
          have hall : ∀ i, i < yss.length → WOk p (yss.getD i []) := of_decide_eq_true hc
          have HSO : Hid (∀ w', Below w.heap.size w w' → Calls Try.prog 63 #[.slice b' yss.length cb, .func (.func 64) #[] #[]] w' fun e w'' => e = .returned (.bool b) ∧ Below w'.heap.size w' w'') := fun w' h => isSorted_any _ yss w' (h2.keep h) (fun i hi => (hall i hi).1) HB.out
          clear hb hd h1 hz hp h2 hs hsp hc hall HB
          generalize xs.length = n at *
          generalize yss.length = m at *
          go_enter Try.func18, Try.ntmps18
          go_wp2_with fail
          go_quiet ((first | (go_at_call 58; exact quiet1 (HAS.out _ (Bdrew (by go_grown) _))) | (go_at_call 59; exact quiet1 (HTC.out _ (Bdrew (by go_grown) _)))))
          go_wp2_with (first | (go_at_call 62; (with_reducible refine (HCF.out _ _ (Bdrew (by go_grown) _) (h0.drewUN _)).mono ?_); rintro e w1 ⟨rfl, hb⟩; have hL := chain (B := w.heap.size) (a := w) (Bdrew (by go_grown) _) (Nat.le_refl _) hb; replace h0 := keepAt3 hb (h0.drewUN _); clear hb) | (go_at_call 63; (with_reducible refine (HSO.out _ hL).mono ?_); rintro e w2 ⟨rfl, hb⟩; replace hL := chain (B := w.heap.size) (a := w) hL (Nat.le_refl _) hb; clear hb))
          go_ret
          exact ⟨rfl, by first | (with_reducible exact hL) | (with_reducible refine Bdrew ?_ _; go_grown; done) | go_grown⟩
      · have HB : Hid (b = false) := by rw [Hid, ← hb]; exact decide_eq_false fun h => h16 h.2.2.1
        have hpp : (p != z) = false := by simp [hp]
        have hbig : (16 : Int) < (yss.length : Int) := by omega
        clear hb hd h1 h2 hz hp hs h16
        generalize xs.length = n at *
        generalize yss.length = m at *
        go_enter Try.func18, Try.ntmps18
        go_wp2_with fail
        go_quiet ((first | (go_at_call 58; exact quiet1 (HAS.out _ (Bdrew (by go_grown) _))) | (go_at_call 59; exact quiet1 (HTC.out _ (Bdrew (by go_grown) _)))))
        go_wp2_with fail
        go_ret
        exact ⟨by rw [HB.out]; rfl, by first | (with_reducible exact hL) | (with_reducible refine Bdrew ?_ _; go_grown; done) | go_grown⟩
    · have HB : Hid (b = false) := by rw [Hid, ← hb]; exact decide_eq_false fun h => hp (by rw [h.2.1, hz])
      have hpp : (p != z) = true := by simp [hp]
      clear hb hd h1 h2 hz hp hs
      generalize xs.length = n at *
      generalize yss.length = m at *
      go_enter Try.func18, Try.ntmps18
      go_wp2_with fail
      go_quiet ((first | (go_at_call 58; exact quiet1 (HAS.out _ (Bdrew (by go_grown) _))) | (go_at_call 59; exact quiet1 (HTC.out _ (Bdrew (by go_grown) _)))))
      go_wp2_with fail
      go_ret
      exact ⟨by rw [HB.out]; rfl, by first | (with_reducible exact hL) | (with_reducible refine Bdrew ?_ _; go_grown; done) | go_grown⟩

set_option maxHeartbeats 1000000 in
theorem first_mem (b off ca b' off' cb n m : Nat) (xs ys : List Int) (w : World) (hn : xs.length = n) (hm : ys.length = m) (n63 : n ≤ 9223372036854775807) (m63 : m ≤ 9223372036854775807)
    (ha : ∀ i, i < n → w.cell? ⟨b, off + i, none⟩ = some (.int .i64 (xs.getD i 0))) (hb : ∀ i, i < m → w.cell? ⟨b', off' + i, none⟩ = some (.int .i64 (ys.getD i 0))) :
    Calls Try.prog 111 #[.slice (some ⟨b, off, none⟩) n ca, .slice (some ⟨b', off', none⟩) m cb] w fun e w' => e = .returned (.bool (decide (cmpL xs ys < 0))) ∧ ∃ m, w' = w.drewN m := by
  have Ha := Lib.hid ha
  have Hb := Lib.hid hb
  have Hn := Lib.hid hn
  have Hm := Lib.hid hm
  have HZ : Hid (∃ m, w = w.drewN m) := ⟨0, rfl⟩
  clear ha hb hn hm
  go_enter Try.func111, Try.ntmps111
  go_wp2_with fail
  go_loopw [5] (fun c wr => ∃ k : Nat, k ≤ n ∧ k ≤ m ∧ c = .int .i64 (k : Int) ∧ Hid (∃ m, wr = w.drewN m) ∧ Hid (cmpL xs ys = cmpL (xs.drop k) (ys.drop k))) (fun c _ => n - (intOf c).toNat)
  case atStart => exact ⟨0, Nat.zero_le _, Nat.zero_le _, rfl, HZ, by unfold Hid; simp⟩
  case round =>
    obtain ⟨k, hk, hkm, rfl, hL, HC⟩ := hrel
    by_cases hlt : k < n
    · have hi1 : (k : Int) < (n : Int) := by omega
      have hi0 : (0 : Int) ≤ (k : Int) := by omega
      by_cases hlm : k < m
      · have hca : wr.cell? ⟨b, off + k, none⟩ = some (.int .i64 (xs.getD k 0)) := by obtain ⟨m, hm⟩ := hL.out; rw [hm]; exact Ha.out k hlt
        have hcb : wr.cell? ⟨b', off' + k, none⟩ = some (.int .i64 (ys.getD k 0)) := by obtain ⟨m, hm⟩ := hL.out; rw [hm]; exact Hb.out k hlm
        have hi2 : (k : Int) < (m : Int) := by omega
        have HD := Lib.hid (cmpL_drop (xs := xs) (ys := ys) (k := k) (by rw [Hn.out]; exact hlt) (by rw [Hm.out]; exact hlm))
        generalize xs.getD k 0 = x at *
        generalize ys.getD k 0 = y at *
        by_cases h1 : x < y
        · have hr : Hid (decide (cmpL xs ys < 0) = true) := by unfold Hid; rw [HC.out, HD.out, if_pos h1]; rfl
          have d1 : (x != y) = true := by simp; omega
          have d2 : (x == y) = false := by simp; omega
          have d3 : decide (x < y) = true := decide_eq_true h1
          clear h1
          go_wp2_with fail
          go_quiet (fail)
          go_wp2_with fail
          go_quiet (fail)
          go_wp2_with fail
          go_ret
          exact ⟨by rw [hr.out]; rfl, by obtain ⟨m, hm⟩ := hL.out; exact ⟨_, by rw [hm, World.drewN_drewN, World.drewN_drewN]⟩⟩
        · by_cases h2 : y < x
          · have hr : Hid (decide (cmpL xs ys < 0) = false) := by unfold Hid; rw [HC.out, HD.out, if_neg h1, if_pos h2]; rfl
            have d1 : (x != y) = true := by simp; omega
            have d2 : (x == y) = false := by simp; omega
            have d3 : decide (x < y) = false := decide_eq_false h1
            clear h1 h2
            go_wp2_with fail
            go_quiet (fail)
            go_wp2_with fail
            go_quiet (fail)
            go_wp2_with fail
            go_ret
            exact ⟨by rw [hr.out]; rfl, by obtain ⟨m, hm⟩ := hL.out; exact ⟨_, by rw [hm, World.drewN_drewN, World.drewN_drewN]⟩⟩
          · have hr : Hid (cmpL xs ys = cmpL (xs.drop (k + 1)) (ys.drop (k + 1))) := by unfold Hid; rw [HC.out, HD.out, if_neg h1, if_neg h2]
            have d1 : (x != y) = false := by simp; omega
            have d2 : (x == y) = true := by simp; omega
            clear h1 h2
            go_wp2_with fail
            go_quiet (fail)
            go_wp2_with fail
            go_roundw
            case rel => exact ⟨k + 1, by omega, by omega, by go_num, by obtain ⟨m, hm⟩ := hL.out; exact ⟨_, by rw [hm, World.drewN_drewN]⟩, hr⟩
            case measure => simp [intOf]; omega
      · have e : k = m := by omega
        subst e
        have hr : Hid (decide (cmpL xs ys < 0) = false) := by unfold Hid; rw [HC.out, cmpL_end2 (by rw [Hn.out]; exact hlt) (by rw [Hm.out]; omega)]; rfl
        have hd : ¬ (n : Int) < (k : Int) := by omega
        have hlm' : ¬ (k : Int) < (k : Int) := by omega
        go_wp2_with fail
        go_ret
        exact ⟨by rw [hr.out]; simp; try omega, hL.out⟩
    · have e : k = n := by omega
      subst e
      have hge : ¬ (k : Int) < (k : Int) := by omega
      by_cases hlm : k < m
      · have hr : Hid (decide (cmpL xs ys < 0) = true) := by unfold Hid; rw [HC.out, cmpL_end1 (by rw [Hn.out]; omega) (by rw [Hm.out]; exact hlm)]; rfl
        have hd : (k : Int) < (m : Int) := by omega
        go_wp2_with fail
        go_ret
        exact ⟨by rw [hr.out]; simp; try omega, hL.out⟩
      · have hr : Hid (decide (cmpL xs ys < 0) = false) := by unfold Hid; rw [HC.out, cmpL_end0 (by rw [Hn.out]; omega) (by rw [Hm.out]; omega)]; rfl
        have hd : ¬ (k : Int) < (m : Int) := by omega
        go_wp2_with fail
        go_ret
        exact ⟨by rw [hr.out]; simp; try omega, hL.out⟩

theorem first_any (va vb : Value) (xs ys : List Int) (w : World) (ha : Reads w va xs) (hb : Reads w vb ys) (lx : xs.length = 2) (ly : ys.length = 2) {z : Bool} (hz : decide (cmpL xs ys < 0) = z) :
    Calls Try.prog 111 #[va, vb] w fun e w' => e = .returned (.bool z) ∧ ∃ m, w' = w.drewN m := by
  obtain ⟨a, ca, rfl, _, ha⟩ := ha
  obtain ⟨b, cb, rfl, _, hb⟩ := hb
  rcases ha with rfl | ⟨b, off, rfl, ha⟩
  · cases lx
  · rcases hb with rfl | ⟨b', off', rfl, hb⟩
    · cases ly
    · subst hz
      exact first_mem b off ca b' off' cb xs.length ys.length xs ys w rfl rfl (by omega) (by omega) ha hb

theorem wir_false {p : Int} {xs : List Int} {yss : List (List Int)} {j : Nat} (hj : j < yss.length) (hb : ¬ okW p yss j) : wirB p xs yss = false :=
  decide_eq_false fun h => hb (h.2.2.2 j hj)

set_option maxRecDepth 100000 in
set_option maxHeartbeats 8000000 in
/-- the model's second loop: the wires -/
theorem l10Is_any (v : Value) (p : Int) (xs : List Int) (yss : List (List Int)) (w : World) (ha : ReadsW w v p xs yss) {bb : Bool} (hbb : wirB p xs yss = bb) :
    Calls Try.prog 56 #[v] w fun e w' => e = .returned (.bool bb) ∧ Below w.heap.size w w' := by
  obtain ⟨a, ca, b', cb, rfl, h1, h2⟩ := ha
  have HX : Hid (∀ k, k < xs.length → ∃ b off, a = some ⟨b, off, none⟩ ∧ w.cell? ⟨b, off + k, none⟩ = some (.int .i64 (xs.getD k 0))) := fun k hk => h1.cellW hk
  have HY : Hid (∀ k, k < yss.length → ∃ b off u, b' = some ⟨b, off, none⟩ ∧ w.cell? ⟨b, off + k, none⟩ = some u ∧ Reads w u (yss.getD k [])) := fun k hk => h2.cellW hk
  have hm1 : xs.length ≤ 2 ^ 63 - 1 := by obtain ⟨_, _, _, hm, _⟩ := h1; exact hm
  have hm2 : yss.length ≤ 2 ^ 63 - 1 := by obtain ⟨_, _, _, hm, _⟩ := h2; exact hm
  have h0 := C3.here w (.int .i64 p) (.slice a xs.length ca) (.slice b' yss.length cb) 28
  have hL0 : Below w.heap.size w (w.alloc (.cells #[.int .i64 p, .slice a xs.length ca, .slice b' yss.length cb] 28)) := by go_grown
  clear h1 h2
  by_cases hlo : xs.length < 1
  · have HB : Hid (bb = false) := by rw [Hid, ← hbb]; exact decide_eq_false fun h => by have := h.1.1.1; omega
    have hd : (xs.length : Int) < 1 := by omega
    clear hbb HX HY
    generalize xs.length = n at *
    generalize yss.length = m at *
    go_enter Try.func56, Try.ntmps56
    go_wp2_with fail
    go_ret
    exact ⟨by rw [HB.out]; rfl, hL0⟩
  · by_cases hhi : 5 < xs.length
    · have HB : Hid (bb = false) := by rw [Hid, ← hbb]; exact decide_eq_false fun h => by have := h.1.1.2; omega
      have hd : ¬ (xs.length : Int) < 1 := by omega
      have hd2 : (5 : Int) < (xs.length : Int) := by omega
      clear hbb HX HY
      generalize xs.length = n at *
      generalize yss.length = m at *
      go_enter Try.func56, Try.ntmps56
      go_wp2_with fail
      go_ret
      exact ⟨by rw [HB.out]; rfl, hL0⟩
    · by_cases h16 : 16 < yss.length
      · have HB : Hid (bb = false) := by rw [Hid, ← hbb]; exact decide_eq_false fun h => by have := h.2.2.1; omega
        have hd : ¬ (xs.length : Int) < 1 := by omega
        have hd2 : ¬ (5 : Int) < (xs.length : Int) := by omega
        have hd3 : (16 : Int) < (yss.length : Int) := by omega
        clear hbb HX HY
        generalize xs.length = n at *
        generalize yss.length = m at *
        go_enter Try.func56, Try.ntmps56
        go_wp2_with fail
        go_ret
        exact ⟨by rw [HB.out]; rfl, hL0⟩
      · have hd : ¬ (xs.length : Int) < 1 := by omega
        have hd2 : ¬ (5 : Int) < (xs.length : Int) := by omega
        have hd3 : ¬ (16 : Int) < (yss.length : Int) := by omega
        obtain ⟨j, hj, hok, hbad⟩ := firstBad (fun i => xs.getD i 0 = 3 ∨ xs.getD i 0 = 4) xs.length
        have HBF : Hid (j < xs.length → bb = false) := fun h => by rw [← hbb]; exact decide_eq_false fun hh => hbad h (hh.1.2 j h)
        have HSW : Hid (j = xs.length → SwOk xs) := fun h => ⟨⟨by omega, by omega⟩, fun i hi => hok i (by omega)⟩
        have HOK1 : Hid (∀ i, i < j → xs.getD i 0 = 3 ∨ xs.getD i 0 = 4) := hok
        have HBAD1 : Hid (j < xs.length → ¬ (xs.getD j 0 = 3 ∨ xs.getD j 0 = 4)) := hbad
        have HST : Hid (∀ k, termZ xs (k + 1) = termZ xs k + xs.getD k 0) := fun k => rfl
        obtain ⟨j2, hj2, hok2, hbad2⟩ := firstBad (okW p yss) yss.length
        have HPF : Hid (p ≠ termZ xs xs.length → bb = false) := fun h => by rw [← hbb]; exact decide_eq_false fun hh => h hh.2.1
        have HB : Hid (∀ i, i < yss.length → ¬ okW p yss i → bb = false) := fun i hi h => by rw [← hbb]; exact wir_false hi h
        have HG : Hid (SwOk xs → p = termZ xs xs.length → j2 = yss.length → bb = true) := fun h1 h2 h3 => by rw [← hbb]; exact decide_eq_true ⟨h1, h2, by omega, by rw [← h3]; exact hok2⟩
        have Hok2 := Lib.hid hok2
        have Hbad2 := Lib.hid hbad2
        have HTB : Hid (SwOk xs → 2 ≤ termZ xs xs.length ∧ termZ xs xs.length ≤ 22) := fun h => by have := termZ_bd h (Nat.le_refl _); have := h.1.2; omega
        have HN5 : Hid (xs.length ≤ 5) := by unfold Hid; omega
        clear hbb hok hbad hok2 hbad2 hlo hhi h16 hm1
        generalize hnn : xs.length = n at *
        generalize hmm : yss.length = m at *
        clear hnn hmm
        have hn5 : n ≤ 5 := HN5.out
        go_enter Try.func56, Try.ntmps56
        go_wp2_with fail
        go_loop [3, 4] (fun s c => ∃ (k : Nat) (t : Int), k ≤ j ∧ c = .int .i64 (k : Int) ∧ s = .int .i64 t ∧ Hid (t = termZ xs k) ∧ 0 ≤ t ∧ t ≤ 2 + 4 * (k : Int)) (fun _ c => n - (intOf c).toNat)
        case atStart => exact ⟨0, 2, Nat.zero_le _, rfl, rfl, rfl, by omega, by omega⟩
        case round =>
          obtain ⟨k, t, hk, rfl, rfl, HT, ht0, ht1⟩ := hrel
          by_cases hlt : k < n
          · obtain ⟨sb, so, rfl, hca0⟩ := HX.out k hlt
            have hca := cell_later hL0 hca0
            have hi1 : (k : Int) < (n : Int) := by omega
            have hi0 : (0 : Int) ≤ (k : Int) := by omega
            have HT' : Hid (t + xs.getD k 0 = termZ xs (k + 1)) := by unfold Hid; rw [HST.out k, ← HT.out]
            by_cases hkj : k < j
            · have hx := HOK1.out k hkj
              generalize xs.getD k 0 = x at *
              have HI : Hid (3 ≤ x ∧ x ≤ 4) := by unfold Hid; omega
              have hx0 : 0 ≤ x := by omega
              have hx4 : x ≤ 4 := by omega
              clear hca0 hx
              go_wp2_with ((go_at_call 65; (with_reducible refine (l01In_yes _ _ _ _ HI.out).mono ?_); rintro e w' ⟨rfl, rfl⟩))
              go_round
              case rel => exact ⟨k + 1, t + x, by omega, by go_num, by go_num, HT', by omega, by omega⟩
              case measure => simp [intOf]; omega
            · have e : k = j := by omega
              subst e
              have hx := HBAD1.out hlt
              have HBF' := Lib.hid (HBF.out hlt)
              generalize xs.getD k 0 = x at *
              have HI : Hid (¬ (3 ≤ x ∧ x ≤ 4)) := by unfold Hid; omega
              clear hca0 hx
              go_wp2_with ((go_at_call 65; (with_reducible refine (l01In_no _ _ _ _ HI.out).mono ?_); rintro e w' ⟨rfl, rfl⟩))
              go_ret
              exact ⟨by rw [HBF'.out]; rfl, hL0⟩
          · have e : j = n := by omega
            have ek : k = n := by omega
            have HS := Lib.hid (HSW.out e)
            subst ek
            clear e
            have hge : ¬ (k : Int) < (k : Int) := by omega
            obtain ⟨NN, hNN⟩ : ∃ NN, k = NN := ⟨_, rfl⟩
            subst hNN
            by_cases hp : p = t
            · have hpt : (p != t) = false := by simp [hp]
              have HGT : Hid (j2 = m → bb = true) := fun h => HG.out HS.out (by rw [hp, HT.out]) h
              have hpb : 2 ≤ p ∧ p ≤ 22 := by have := HTB.out HS.out; rw [hp, HT.out]; exact this
              obtain ⟨hp2, hp22⟩ := hpb
              have hw2 : IntKind.i64.wrap (p - 1) = p - 1 := IntWalk.i64_in _ (by omega)
              have HPT := Lib.hid hp
              subst hp
              clear HBF HSW HOK1 HBAD1 HST HPF HG HTB HT ht0 ht1 hk hn5
              go_wp2_with fail
              go_loopw [5] (fun c wr => ∃ k' : Nat, k' ≤ j2 ∧ c = .int .i64 (k' : Int) ∧ Below w.heap.size w wr ∧ C3 wr w.heap.size (.int .i64 p) (.slice a k ca) (.slice b' m cb)) (fun c _ => m - (intOf c).toNat)
              case atStart => exact ⟨0, Nat.zero_le _, rfl, hL0, h0⟩
              case round =>
                clear h0 hL0
                obtain ⟨k, hk, rfl, hL, h0⟩ := hrel
                by_cases hlt : k < m
                · obtain ⟨yb, yo, u, rfl, hu, hr⟩ := HY.out k hlt
                  have hca := cell_later hL hu
                  have HR := Lib.hid (hr.keep hL)
                  have hi1 : (k : Int) < (m : Int) := by omega
                  have hi0 : (0 : Int) ≤ (k : Int) := by omega
                  have HOK : Hid (okW p yss k ↔ WOk p (yss.getD k []) ∧ (0 < k → 0 ≤ cmpL (yss.getD k []) (yss.getD (k - 1) []))) := Iff.rfl
                  have HKB : Hid (¬ okW p yss k → bb = false) := HB.out k hlt
                  have HKG : Hid (okW p yss k → k < j2) := fun h => by
                    rcases Nat.lt_or_ge k j2 with h1 | h1
                    · exact h1
                    · have e : k = j2 := by omega
                      subst e
                      exact absurd h (Hbad2.out hlt)
                  clear hu hr
                  generalize hcc : yss.getD k [] = c at *
                  clear hcc
                  obtain ⟨ua, uc, rfl, hlm, hce⟩ := HR.out
                  unfold maxLen at hlm
                  by_cases hl2 : c.length = 2
                  · obtain ⟨x0, x1, rfl⟩ := list2 hl2
                    rcases hce with hce | ⟨cb', co, rfl, hce⟩
                    · cases hce
                    · have c0 : wr.cell? ⟨cb', co, none⟩ = some (.int .i64 x0) := by simpa using hce 0 (by simp)
                      have c1 : wr.cell? ⟨cb', co + 1, none⟩ = some (.int .i64 x1) := by simpa using hce 1 (by simp)
                      clear hce hl2
                      by_cases b0 : 0 ≤ x0 ∧ x0 ≤ p - 1
                      · have B0 := Lib.hid b0
                        by_cases b1 : 0 ≤ x1 ∧ x1 ≤ p - 1
                        · have B1 := Lib.hid b1
                          by_cases b2 : x0 < x1
                          · have d2 : decide (x1 ≤ x0) = false := decide_eq_false (by omega)
                            have HC : Hid (WOk p [x0, x1]) := by unfold Hid; rw [wok_iff]; omega
                            clear b0 b1 b2
                            rcases Nat.eq_zero_or_pos k with hz | hp
                            · subst hz
                              have hkj := HKG.out (HOK.out.2 ⟨HC.out, fun h => absurd h (Nat.lt_irrefl _)⟩)
                              simp only [Nat.add_zero] at hca
                              have dk : decide ((0 : Int) < ((0 : Nat) : Int)) = false := rfl
                              go_wp2_with fail
                              go_quiet ((first | (go_at_call 65; exact quiet1 (l01In_yes _ _ _ _ B0.out)) | (go_at_call 65; exact quiet1 (l01In_yes _ _ _ _ B1.out))))
                              go_wp2_with fail
                              go_roundw
                              case rel => exact ⟨0 + 1, by omega, by go_num, Bdrew hL _, h0⟩
                              case measure => simp [intOf]; omega
                            · obtain ⟨yb2, yo2, u', e2, hu', hr'⟩ := HY.out (k - 1) (by omega)
                              obtain ⟨rfl, rfl⟩ : yb = yb2 ∧ yo = yo2 := by simpa using e2
                              have hcp := cell_later hL hu'
                              have HR' := Lib.hid (hr'.keep hL)
                              have hp1 : decide ((0 : Int) < (k : Int)) = true := decide_eq_true (by omega)
                              have hp2 : (0 : Int) ≤ (k : Int) - 1 := by omega
                              have hp3 : (k : Int) - 1 < (m : Int) := by omega
                              have hp4 : ((k : Int) - 1).toNat = k - 1 := by omega
                              have hw3 : IntKind.i64.wrap ((k : Int) - 1) = (k : Int) - 1 := IntWalk.i64_in _ (by omega)
                              have L2 : Hid ((yss.getD (k - 1) []).length = 2) := (Hok2.out (k - 1) (by omega)).1.1
                              have HR4 : Hid (Reads wr (.slice (some ⟨cb', co, none⟩) 2 uc) [x0, x1]) := HR.out
                              have L1 : Hid ([x0, x1].length = 2) := rfl
                              clear hu' hr' e2
                              generalize yss.getD (k - 1) [] = c' at *
                              by_cases hcmp : cmpL [x0, x1] c' < 0
                              · have hr : Hid (bb = false) := HKB.out (fun h => by have := (HOK.out.1 h).2 hp; omega)
                                have HZ : Hid (decide (cmpL [x0, x1] c' < 0) = true) := decide_eq_true hcmp
                                clear hcmp
                                go_wp2_with fail
                                go_quiet ((first | (go_at_call 65; exact quiet1 (l01In_yes _ _ _ _ B0.out)) | (go_at_call 65; exact quiet1 (l01In_yes _ _ _ _ B1.out)) | (go_at_call 111; exact Calls.quiet_of (first_any _ _ _ _ _ (HR4.out.keep (Bdrew (Below.refl _ _) _)) (HR'.out.keep (Bdrew (Below.refl _ _) _)) L1.out L2.out HZ.out))))
                                go_wp2_with fail
                                go_ret
                                exact ⟨by rw [hr.out]; rfl, Bdrew hL _⟩
                              · have hkj := HKG.out (HOK.out.2 ⟨HC.out, fun _ => by omega⟩)
                                have HZ : Hid (decide (cmpL [x0, x1] c' < 0) = false) := decide_eq_false hcmp
                                clear hcmp
                                go_wp2_with fail
                                go_quiet ((first | (go_at_call 65; exact quiet1 (l01In_yes _ _ _ _ B0.out)) | (go_at_call 65; exact quiet1 (l01In_yes _ _ _ _ B1.out)) | (go_at_call 111; exact Calls.quiet_of (first_any _ _ _ _ _ (HR4.out.keep (Bdrew (Below.refl _ _) _)) (HR'.out.keep (Bdrew (Below.refl _ _) _)) L1.out L2.out HZ.out))))
                                go_wp2_with fail
                                go_roundw
                                case rel => exact ⟨k + 1, by omega, by go_num, Bdrew hL _, h0⟩
                                case measure => simp [intOf]; omega
                          · have d2 : decide (x1 ≤ x0) = true := decide_eq_true (by omega)
                            have hr : Hid (bb = false) := HKB.out (fun h => by have := (HOK.out.1 h).1; rw [wok_iff] at this; omega)
                            clear b0 b1 b2
                            go_wp2_with fail
                            go_quiet ((first | (go_at_call 65; exact quiet1 (l01In_yes _ _ _ _ B0.out)) | (go_at_call 65; exact quiet1 (l01In_yes _ _ _ _ B1.out))))
                            go_wp2_with fail
                            go_ret
                            exact ⟨by rw [hr.out]; rfl, by first | exact Bdrew hL _ | go_grown⟩
                        · have B1 := Lib.hid b1
                          have hr : Hid (bb = false) := HKB.out (fun h => by have := (HOK.out.1 h).1; rw [wok_iff] at this; omega)
                          clear b0 b1
                          go_wp2_with fail
                          go_quiet ((first | (go_at_call 65; exact quiet1 (l01In_yes _ _ _ _ B0.out)) | (go_at_call 65; exact quiet1 (l01In_no _ _ _ _ B1.out))))
                          go_wp2_with fail
                          go_ret
                          exact ⟨by rw [hr.out]; rfl, by first | exact Bdrew hL _ | go_grown⟩
                      · have B0 := Lib.hid b0
                        have hr : Hid (bb = false) := HKB.out (fun h => by have := (HOK.out.1 h).1; rw [wok_iff] at this; omega)
                        clear b0
                        go_wp2_with fail
                        go_quiet ((first | (go_at_call 65; exact quiet1 (l01In_no _ _ _ _ B0.out))))
                        go_wp2_with fail
                        go_ret
                        exact ⟨by rw [hr.out]; rfl, by first | exact Bdrew hL _ | go_grown⟩
                  · have hr : Hid (bb = false) := HKB.out (fun h => hl2 (HOK.out.1 h).1.1)
                    have hd : (((c.length : Nat) : Int) != 2) = true := by simp; omega
                    have hd2 : (((c.length : Nat) : Int) == 2) = false := by simp; omega
                    clear hce HR HOK hl2
                    go_wp2_with fail
                    go_quiet (fail)
                    go_wp2_with fail
                    go_ret
                    exact ⟨by rw [hr.out]; rfl, by first | exact Bdrew hL _ | go_grown⟩
                · have hr : Hid (bb = true) := HGT.out (by omega)
                  have hge : ¬ (k : Int) < (m : Int) := by omega
                  clear hj hk hlt
                  go_wp2_with fail
                  go_ret
                  exact ⟨by rw [hr.out]; rfl, hL⟩
            · have hpt : (p != t) = true := by simp [hp]
              have hr : Hid (bb = false) := HPF.out (by rw [← HT.out]; exact hp)
              clear hp
              go_wp2_with fail
              go_ret
              exact ⟨by rw [hr.out]; rfl, hL0⟩

def resIsWiring_0 (p : Int) (xs : List Int) (yss : List (List Int)) : Bool := wirB p xs yss
theorem iIsWiring_any (v : Value) (p : Int) (xs : List Int) (yss : List (List Int)) (w : World) (ha : ReadsW w v p xs yss) :
    Calls Try.prog 18 #[v] w fun e w' => e = .returned (.bool (resIsWiring_0 p xs yss)) ∧ Below w.heap.size w w' := isWiring_any v p xs yss w ha rfl
theorem sIsWiring_any (v : Value) (p : Int) (xs : List Int) (yss : List (List Int)) (w : World) (ha : ReadsW w v p xs yss) :
    Calls Try.prog 16 #[v] w fun e w' => e = .returned (.bool (resIsWiring_0 p xs yss)) ∧ Below w.heap.size w w' := by
  have HC := Lib.hid (fun w' (h : Below w.heap.size w w') => l10Is_any v p xs yss w' (ha.keep h) (bb := resIsWiring_0 p xs yss) rfl)
  obtain ⟨a, ca, b', cb, rfl, _, _⟩ := ha
  generalize resIsWiring_0 p xs yss = b at *
  generalize xs.length = n at *
  generalize yss.length = m at *
  go_enter Try.func16, Try.ntmps16
  go_wp2_with fail
  refine (HC.out _ (by go_grown)).mono ?_
  rintro e w1 ⟨rfl, hb⟩
  have hL := chain (B := w.heap.size) (a := w) (by go_grown) (Nat.le_refl _) hb
  clear hb
  go_wp2_with fail
  go_ret
  exact ⟨rfl, hL⟩

end Go.Proofs.Ytkdidplpnhokiaa
