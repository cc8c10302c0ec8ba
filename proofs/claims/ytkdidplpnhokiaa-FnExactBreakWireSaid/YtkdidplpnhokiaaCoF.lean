/- Predicates on the numbers of a slice: slices.IndexFunc, slices.ContainsFunc. -/
import Derived.Test.YtkdidplpnhokiaaOwn
import Derived.Test.YtkdidplpnhokiaaCo0
import Derived.LoopTactic
import Derived.Shelf.Abstract
namespace Go.Proofs.Ytkdidplpnhokiaa
open Go.RowKit
set_option linter.unusedVariables false

set_option maxRecDepth 100000 in
set_option maxHeartbeats 1000000 in
theorem indexFunc_any (v : Value) (xs : List Int) (F : Nat) (caps : Array Value) (p : Int → Bool) (j : Nat) (w : World) (ha : Reads w v xs)
    (hj : j ≤ xs.length) (hno : ∀ i, i < j → p (xs.getD i 0) = false) (hyes : j < xs.length → p (xs.getD j 0) = true)
    (hf : ∀ (x : Int) (wx : World), Below w.heap.size w wx → Calls Try.prog F (#[.int .i64 x] ++ caps) wx fun e w' => e = .returned (.bool (p x)) ∧ Below wx.heap.size wx w')
    (hE : ∀ (args : Array Value) (w : World), (callFunc F args).run Try.prog w = .ok (.enter F args) w) {r : Int} (hr : (if j < xs.length then (j : Int) else -1) = r) :
    Calls Try.prog 137 #[v, .func (.func F) #[] caps] w fun e w' => e = .returned (.int .i64 r) ∧ Below w.heap.size w w' := by
  obtain ⟨a, ca, rfl, hm, ha'⟩ := ha
  unfold maxLen at hm
  have Ha : Hid (∀ i, i < xs.length → ∃ b off, a = some ⟨b, off, none⟩ ∧ w.cell? ⟨b, off + i, none⟩ = some (.int .i64 (xs.getD i 0))) := by
    rcases ha' with rfl | ⟨b, off, rfl, ha'⟩
    · intro i hi; simp at hi
    · intro i hi; exact ⟨b, off, rfl, ha' i hi⟩
  have Hf := Lib.hid hf
  have Hno := Lib.hid hno
  have Hyes := Lib.hid hyes
  have Hr := Lib.hid hr
  clear ha' hf hno hyes hr
  generalize hnn : xs.length = n at *
  clear hnn
  go_enter Try.func137, Try.ntmps137
  go_wp2_with fail
  go_loopw [8] (fun c wr => ∃ k : Nat, k ≤ j ∧ c = .int .i64 (k : Int) ∧ Below w.heap.size w wr) (fun c _ => n - (intOf c).toNat)
  case atStart => exact ⟨0, Nat.zero_le _, rfl, Below.refl _ _⟩
  case round =>
    obtain ⟨k, hk, rfl, hL⟩ := hrel
    by_cases hlt : k < n
    · obtain ⟨b, off, rfl, hca0⟩ := Ha.out k hlt
      have hca := cell_later hL hca0
      have hi1 : (k : Int) < (n : Int) := by omega
      have hi0 : (0 : Int) ≤ (k : Int) := by omega
      by_cases hkj : k < j
      · have HC : Hid (∀ wx, Below w.heap.size w wx → Calls Try.prog F (#[.int .i64 (xs.getD k 0)] ++ caps) wx fun e w' => e = .returned (.bool false) ∧ Below wx.heap.size wx w') := fun wx hb => by
          have := Hf.out (xs.getD k 0) wx hb
          rwa [Hno.out k hkj] at this
        clear hca0
        generalize xs.getD k 0 = x at *
        go_wp2_with ((with_reducible refine (HC.out _ (by first | exact hL | go_grown)).mono ?_); rintro e w' ⟨rfl, hb⟩; have hL := chain (B := w.heap.size) (a := w) hL (Nat.le_refl _) hb; clear hb)
        go_roundw
        case rel => exact ⟨k + 1, by omega, by go_num, hL⟩
        case measure => simp [intOf]; omega
      · have e : k = j := by omega
        subst e
        have HC : Hid (∀ wx, Below w.heap.size w wx → Calls Try.prog F (#[.int .i64 (xs.getD k 0)] ++ caps) wx fun e w' => e = .returned (.bool true) ∧ Below wx.heap.size wx w') := fun wx hb => by
          have := Hf.out (xs.getD k 0) wx hb
          rwa [Hyes.out hlt] at this
        have HR : Hid (r = (k : Int)) := by have := Hr.out; rw [if_pos hlt] at this; exact this.symm
        clear hca0
        generalize xs.getD k 0 = x at *
        go_wp2_with ((with_reducible refine (HC.out _ (by first | exact hL | go_grown)).mono ?_); rintro e w' ⟨rfl, hb⟩; have hL := chain (B := w.heap.size) (a := w) hL (Nat.le_refl _) hb; clear hb)
        go_ret
        exact ⟨by rw [HR.out]; rfl, hL⟩
    · have HR : Hid (r = -1) := by have := Hr.out; rw [if_neg (by omega)] at this; exact this.symm
      go_wp2_with fail
      go_ret
      exact ⟨by rw [HR.out]; rfl, hL⟩

theorem containsFunc_any (v : Value) (xs : List Int) (F : Nat) (caps : Array Value) (p : Int → Bool) (w : World) (ha : Reads w v xs)
    (hf : ∀ (x : Int) (wx : World), Below w.heap.size w wx → Calls Try.prog F (#[.int .i64 x] ++ caps) wx fun e w' => e = .returned (.bool (p x)) ∧ Below wx.heap.size wx w')
    (hE : ∀ (args : Array Value) (w : World), (callFunc F args).run Try.prog w = .ok (.enter F args) w) {b : Bool} (hb : decide (∃ i, i < xs.length ∧ p (xs.getD i 0) = true) = b) :
    Calls Try.prog 114 #[v, .func (.func F) #[] caps] w fun e w' => e = .returned (.bool b) ∧ Below w.heap.size w w' := by
  obtain ⟨j, hj, hno, hyes⟩ := firstB (fun i => p (xs.getD i 0)) xs.length
  have hI : Hid (∀ {r : Int}, (if j < xs.length then (j : Int) else -1) = r → Calls Try.prog 137 #[v, .func (.func F) #[] caps] w fun e w' => e = .returned (.int .i64 r) ∧ Below w.heap.size w w') :=
    fun h => indexFunc_any v xs F caps p j w ha hj hno hyes hf hE h
  by_cases hlt : j < xs.length
  · have hB : Hid (b = true) := by rw [Hid, ← hb]; exact decide_eq_true ⟨j, hlt, hyes hlt⟩
    have HI := Lib.hid (hI.out (if_pos hlt))
    clear hb hI hf hno hyes ha hlt hE
    go_enter Try.func114, Try.ntmps114
    go_wp2_with fail
    refine HI.out.mono ?_
    rintro e w' ⟨rfl, hL⟩
    go_wp2_with fail
    go_ret
    exact ⟨by rw [hB.out]; simp, hL⟩
  · have hB : Hid (b = false) := by
      rw [Hid, ← hb]
      refine decide_eq_false fun ⟨i, hi, h⟩ => ?_
      have := hno i (by omega)
      rw [this] at h; cases h
    have HI := Lib.hid (hI.out (if_neg hlt))
    clear hb hI hf hno hyes ha hlt hE
    go_enter Try.func114, Try.ntmps114
    go_wp2_with fail
    refine HI.out.mono ?_
    rintro e w' ⟨rfl, hL⟩
    go_wp2_with fail
    go_ret
    exact ⟨by rw [hB.out]; rfl, hL⟩

end Go.Proofs.Ytkdidplpnhokiaa
