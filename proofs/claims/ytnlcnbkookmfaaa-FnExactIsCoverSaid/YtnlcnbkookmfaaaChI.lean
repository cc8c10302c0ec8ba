/- IsChart: the program's. -/
import Derived.Test.YtnlcnbkookmfaaaChM
import Derived.Test.YtnlcnbkookmfaaaCoF
import Derived.Test.YtnlcnbkookmfaaaAt
import Derived.Test.YtnlcnbkookmfaaaCha
namespace Go.Proofs.Ytnlcnbkookmfaaa
open Go.RowKit
set_option linter.unusedVariables false

theorem isSizeH (x most : Int) (w : World) {b : Bool} (hb : decide (1 ≤ x ∧ x ≤ most) = b) :
    Calls Try.prog 55 #[.int .i64 x, .int .i64 most] w fun e w' => e = .returned (.bool b) ∧ w = w' := by
  by_cases h1 : 1 ≤ x
  · by_cases h2 : x ≤ most
    · have HB : Hid (b = true) := by rw [Hid, ← hb]; exact decide_eq_true ⟨h1, h2⟩
      clear hb
      go_enter Try.func55, Try.ntmps55
      go_wp2
      go_ret
      exact ⟨by rw [HB.out]; rfl, rfl⟩
    · have HB : Hid (b = false) := by rw [Hid, ← hb]; exact decide_eq_false fun h => h2 h.2
      clear hb
      go_enter Try.func55, Try.ntmps55
      go_wp2
      go_ret
      exact ⟨by rw [HB.out]; rfl, rfl⟩
  · have HB : Hid (b = false) := by rw [Hid, ← hb]; exact decide_eq_false fun h => h1 h.1
    clear hb
    go_enter Try.func55, Try.ntmps55
    go_wp2
    go_ret
    exact ⟨by rw [HB.out]; rfl, rfl⟩
theorem isBelowH (x l : Int) (w : World) {b : Bool} (hb : decide (0 ≤ x ∧ x < l) = b) :
    Calls Try.prog 60 #[.int .i64 x, .int .i64 l] w fun e w' => e = .returned (.bool b) ∧ w = w' := by
  subst hb
  by_cases h : 0 ≤ x ∧ x < l
  · rw [decide_eq_true h]; exact isBelow_yes x l w h
  · rw [decide_eq_false h]; exact isBelow_no x l w h

theorem rowsIn_any (v : Value) (p : Int) (xss yss : List (List Int)) (w : World) (ha : ReadsH w v p xss yss) :
    Calls Try.prog 54 #[v] w fun e w' => e = .returned (.int .i64 (xss.length : Int)) ∧ Below w.heap.size w w' := by
  obtain ⟨a, ca, b, cb, rfl, ⟨_, _, _, hm, _⟩, _⟩ := ha
  unfold maxLen at hm
  generalize xss.length = n at *
  generalize yss.length = m at *
  go_enter Try.func54, Try.ntmps54
  go_wp2
  go_ret
  exact ⟨rfl, by go_grown⟩

/-- a number that is no place -/
def noPl (l x : Int) : Bool := !(decide (-1 ≤ x ∧ x < l))
theorem noPlace_any (l x : Int) (bn : Nat) (w : World) (hl : 0 ≤ l) (c0 : w.cell? ⟨bn, 0, none⟩ = some (.int .i64 l)) :
    Calls Try.prog 97 #[.int .i64 x, .pointer (some ⟨bn, 0, none⟩)] w fun e w' => e = .returned (.bool (noPl l x)) ∧ Below w.heap.size w w' := by
  by_cases h : x = -1
  · have HB : Hid (noPl l x = false) := by unfold Hid noPl; rw [decide_eq_true (by omega)]; rfl
    have hx : (x != -1) = false := by simp [h]
    clear h
    go_enter Try.func97, Try.ntmps97
    go_wp2
    go_ret
    exact ⟨by rw [HB.out]; rfl, by go_grown⟩
  · have HB : Hid (noPl l x = !(decide (0 ≤ x ∧ x < l))) := by
      unfold Hid noPl
      by_cases h2 : 0 ≤ x ∧ x < l
      · rw [decide_eq_true h2, decide_eq_true (by omega)]
      · rw [decide_eq_false h2, decide_eq_false (by omega)]
    have hx : (x != -1) = true := by simp [h]
    have HI := Lib.hid (fun w => isBelowH x l w rfl)
    clear h
    generalize decide (0 ≤ x ∧ x < l) = b at *
    go_enter Try.func97, Try.ntmps97
    go_wp2_with ((go_at_call 60; (with_reducible refine (HI.out _).mono ?_); rintro e w' ⟨rfl, rfl⟩))
    go_ret
    exact ⟨by rw [HB.out]; rfl, by go_grown⟩

theorem row_contains {p l : Int} {r : List Int} (h : (r.length : Int) = p) : decide (∃ i, i < r.length ∧ noPl l (r.getD i 0) = true) = !(decide (RowOk p l r)) := by
  by_cases hr : RowOk p l r
  · rw [decide_eq_true hr]
    refine decide_eq_false fun ⟨i, hi, hx⟩ => ?_
    unfold noPl at hx
    rw [decide_eq_true (hr.2 i hi)] at hx
    cases hx
  · rw [decide_eq_false hr]
    refine decide_eq_true (Classical.byContradiction fun hno => hr ⟨h, fun i hi => Classical.byContradiction fun hx => hno ⟨i, hi, ?_⟩⟩)
    unfold noPl
    rw [decide_eq_false hx]; rfl

set_option maxRecDepth 100000 in
set_option maxHeartbeats 2000000 in
theorem arePlaces_any (v : Value) (p l : Int) (xss : List (List Int)) (w : World) (ha : Reads2 w v xss) (hl : 0 ≤ l) {b : Bool} (hb : decide (RowsOk p l xss) = b) :
    Calls Try.prog 56 #[v, .int .i64 p, .int .i64 l] w fun e w' => e = .returned (.bool b) ∧ Below w.heap.size w w' := by
  obtain ⟨j, hj, hok, hbad⟩ := firstBad (fun i => RowOk p l (xss.getD i [])) xss.length
  have HT : Hid (j = xss.length → b = true) := fun e => by rw [← hb]; exact decide_eq_true (by rw [e] at hok; exact hok)
  have HF : Hid (j < xss.length → b = false) := fun e => by rw [← hb]; exact decide_eq_false fun h => hbad e (h j e)
  have Hok := Lib.hid hok
  have Hbad := Lib.hid hbad
  have HA := Lib.hid ha
  obtain ⟨a, ca, rfl, hm, _⟩ := ha
  unfold maxLen at hm
  have Ha : Hid (∀ k, k < xss.length → ∃ b off u, a = some ⟨b, off, none⟩ ∧ w.cell? ⟨b, off + k, none⟩ = some u ∧ Reads w u (xss.getD k [])) := fun k hk => HA.out.cellR hk
  clear hb hok hbad HA
  generalize xss.length = n at *
  go_enter Try.func56, Try.ntmps56
  go_wp2_with fail
  go_loopw [13] (fun c wr => ∃ k : Nat, k ≤ j ∧ c = .int .i64 (k : Int) ∧ Below w.heap.size w wr ∧ wr.cell? ⟨w.heap.size, 0, none⟩ = some (.int .i64 l) ∧ w.heap.size < wr.heap.size) (fun c _ => n - (intOf c).toNat)
  case atStart => exact ⟨0, Nat.zero_le _, rfl, by go_grown, by rw [World.cell?_alloc_at _ _ _ _ rfl]; rfl, by simp⟩
  case round =>
    obtain ⟨k, hk, rfl, hL, hc0, hz0⟩ := hrel
    by_cases hlt : k < n
    · obtain ⟨ab, off, u, rfl, hu, hr⟩ := Ha.out k hlt
      have hca := cell_later hL hu
      have HR := Lib.hid (hr.keep hL)
      obtain ⟨ua, uc, rfl, hum, _⟩ := hr
      unfold maxLen at hum
      have hi1 : (k : Int) < (n : Int) := by omega
      have hi0 : (0 : Int) ≤ (k : Int) := by omega
      have Hkj : Hid (RowOk p l (xss.getD k []) → k < j) := fun h => by
        rcases Nat.lt_or_ge k j with h1 | h1
        · exact h1
        · have e : k = j := by omega
          subst e
          exact absurd h (Hbad.out hlt)
      have Hkb : Hid (¬ RowOk p l (xss.getD k []) → b = false) := fun h => by
        refine HF.out ?_
        rcases Nat.lt_or_ge j n with h1 | h1
        · exact h1
        · exact absurd (Hok.out k (by omega)) h
      clear hu
      generalize xss.getD k [] = row at *
      by_cases hlen : (row.length : Int) = p
      · have hd : (((row.length : Nat) : Int) != p) = false := by simp [hlen]
        have HCF := Lib.hid (fun wx (hbl : Below wr.heap.size wr wx) => containsFunc_any (.slice ua row.length uc) row 97 #[.pointer (some ⟨w.heap.size, 0, none⟩)] (noPl l) wx (HR.out.keep hbl) (fun x wy hby => noPlace_any l x w.heap.size wy hl (cell_later hby (cell_later hbl hc0))) (enters_of Try.func97 (by kernel_rfl) rfl) (row_contains hlen))
        cases hR : decide (RowOk p l row)
        · have HB := Lib.hid (Hkb.out (of_decide_eq_false hR))
          rw [hR] at HCF
          clear hR hlen
          generalize row.length = rl at *
          go_wp2_with (go_at_call 63; (with_reducible refine (HCF.out _ (by go_grown)).mono ?_); rintro e w' ⟨rfl, hb⟩; have hL' := chain (B := w.heap.size) (a := w) hL (Nat.le_refl _) hb; clear hb)
          go_ret
          exact ⟨by rw [HB.out]; rfl, hL'⟩
        · have hkj := Hkj.out (of_decide_eq_true hR)
          rw [hR] at HCF
          clear hR hlen
          generalize row.length = rl at *
          go_wp2_with (go_at_call 63; (with_reducible refine (HCF.out _ (by go_grown)).mono ?_); rintro e w' ⟨rfl, hb⟩; have hL' := chain (B := w.heap.size) (a := w) hL (Nat.le_refl _) hb; have hc0' := cell_later hb hc0; have hz0' := hb.size; clear hb)
          go_roundw
          case rel => exact ⟨k + 1, by omega, by go_num, hL', hc0', by omega⟩
          case measure => simp [intOf]; omega
      · have hd : (((row.length : Nat) : Int) != p) = true := by simp [hlen]
        have HB := Lib.hid (Hkb.out fun h => hlen h.1)
        clear hlen
        generalize row.length = rl at *
        go_wp2_with fail
        go_ret
        exact ⟨by rw [HB.out]; rfl, hL⟩
    · have HB := Lib.hid (HT.out (by omega))
      have hge : ¬ (k : Int) < (n : Int) := by omega
      go_wp2_with fail
      go_ret
      exact ⟨by rw [HB.out]; rfl, hL⟩

end Go.Proofs.Ytnlcnbkookmfaaa
