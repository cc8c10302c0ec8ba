/- ClosedContacts: the program's and the model's. -/
import Derived.Test.YtlihnknlpbokiaaClosed
import Derived.Test.YtlihnknlpbokiaaCode
import Derived.Test.YtlihnknlpbokiaaSets
import Derived.Test.YtlihnknlpbokiaaLIsNetwork
namespace Go.Proofs.Ytlihnknlpbokiaa
open Go.RowKit
set_option linter.unusedVariables false

/-- what ClosedContacts gives -/
def ccList (p : Int) (xss : List (List Int)) (row : Int) : List Int := if netCode p xss row [] = 0 then onesTo (closedS xss row) 62 else []
def ccCode (p : Int) (xss : List (List Int)) (row : Int) : Int := netCode p xss row []
theorem netCode_cases (p : Int) (xss : List (List Int)) (row : Int) (pts : List Int) : (¬ Net p xss ∧ netCode p xss row pts = 1) ∨ (Net p xss ∧ ¬ ((0 ≤ row ∧ row ≤ 31) ∧ ∀ i, i < pts.length → 0 ≤ pts.getD i 0 ∧ pts.getD i 0 ≤ p - 1) ∧ netCode p xss row pts = 2) ∨ (Net p xss ∧ ((0 ≤ row ∧ row ≤ 31) ∧ ∀ i, i < pts.length → 0 ≤ pts.getD i 0 ∧ pts.getD i 0 ≤ p - 1) ∧ netCode p xss row pts = 0) := by
  unfold netCode
  by_cases h1 : Net p xss
  · by_cases h2 : (0 ≤ row ∧ row ≤ 31) ∧ ∀ i, i < pts.length → 0 ≤ pts.getD i 0 ∧ pts.getD i 0 ≤ p - 1
    · right; right; exact ⟨h1, h2, by rw [if_pos h1, if_pos h2]⟩
    · right; left; exact ⟨h1, h2, by rw [if_pos h1, if_neg h2]⟩
  · left; exact ⟨h1, by rw [if_neg h1]⟩

theorem rowCount5 (w : World) : Calls Try.prog 73 #[.int .i64 5] w fun e w' => e = .returned (.int .i64 32) ∧ w = w' := rowCount_any 5 w (by omega) (by omega)

set_option maxRecDepth 100000 in
set_option maxHeartbeats 2000000 in
theorem iClosedContacts_any (p : Int) (v : Value) (xss : List (List Int)) (row : Int) (w : World) (ha : Reads2 w v xss) :
    Calls Try.prog 34 #[.agg #[.int .i64 p, v], .int .i64 row] w fun e w' => ∃ u, e = .returned (.tuple #[u, .int .i64 (ccCode p xss row)]) ∧ Owns w' w.heap.size u (ccList p xss row) ∧ Below w.heap.size w w' := by
  have HR := Lib.hid (ha.keep ((Below.refl _ _).alloc (Nat.le_refl _) (.cells #[.int .i64 p, v] 26)))
  obtain ⟨a, ca, rfl, hm, _⟩ := ha
  have k0 := C2.here w (.int .i64 p) (.slice a xss.length ca) 26
  rcases netCode_cases p xss row [] with ⟨hN, hc⟩ | ⟨hN, hb, hc⟩ | ⟨hN, hb, hc⟩
  · have HN : Hid (decide (Net p xss) = false) := decide_eq_false hN
    have hr1 : Hid (ccList p xss row = []) := by unfold Hid ccList; rw [hc]; rfl
    have hr2 : Hid (ccCode p xss row = 1) := hc
    clear hc hN
    go_enter Try.func34, Try.ntmps34
    go_wp2_with (go_at_call 26; (with_reducible refine (isNetwork_b _ _ xss _ HR.out HN.out).mono ?_); rintro e w' ⟨rfl, hb⟩; have hL := chain (B := w.heap.size) (a := w) (by go_grown) (Nat.le_refl _) hb; clear hb)
    go_ret2
    exact ⟨_, by rw [hr2.out]; rfl, by rw [hr1.out]; exact World.ownsRow_nil _ _ _ _, hL⟩
  · have HN : Hid (decide (Net p xss) = true) := decide_eq_true hN
    have hr1 : Hid (ccList p xss row = []) := by unfold Hid ccList; rw [hc]; rfl
    have hr2 : Hid (ccCode p xss row = 2) := hc
    have HB : Hid (¬ (0 ≤ row ∧ row < 32)) := fun h => hb ⟨⟨h.1, by omega⟩, fun i hi => by simp at hi⟩
    clear hc hN hb
    go_enter Try.func34, Try.ntmps34
    go_wp2_with (first | (go_at_call 73; (with_reducible refine (rowCount5 _).mono ?_); rintro e w' ⟨rfl, rfl⟩) | (go_at_call 72; (with_reducible refine (isBelow_no _ _ _ HB.out).mono ?_); rintro e w' ⟨rfl, rfl⟩) | (go_at_call 26; (with_reducible refine (isNetwork_b _ _ xss _ HR.out HN.out).mono ?_); rintro e w' ⟨rfl, hb⟩; have hL := chain (B := w.heap.size) (a := w) (by go_grown) (Nat.le_refl _) hb; clear hb))
    go_ret2
    exact ⟨_, by rw [hr2.out]; rfl, by rw [hr1.out]; exact World.ownsRow_nil _ _ _ _, hL⟩
  · have HN : Hid (decide (Net p xss) = true) := decide_eq_true hN
    have hr1 : Hid (ccList p xss row = onesTo (closedS xss row) 62) := by unfold Hid ccList; rw [hc]; rfl
    have hr2 : Hid (ccCode p xss row = 0) := hc
    have HB : Hid (0 ≤ row ∧ row < 32) := ⟨hb.1.1, by have := hb.1.2; omega⟩
    have HC := Lib.hid (net_con hN)
    have HS := Lib.hid (closedS_bd xss row (net_con hN).1)
    clear hc hN hb
    go_enter Try.func34, Try.ntmps34
    go_wp2_with (first | (go_at_call 73; (with_reducible refine (rowCount5 _).mono ?_); rintro e w' ⟨rfl, rfl⟩) | (go_at_call 72; (with_reducible refine (isBelow_yes _ _ _ HB.out).mono ?_); rintro e w' ⟨rfl, rfl⟩) | (go_at_call 26; (with_reducible refine (isNetwork_b _ _ xss _ HR.out HN.out).mono ?_); rintro e w' ⟨rfl, hb⟩; have hL := chain (B := w.heap.size) (a := w) (by go_grown) (Nat.le_refl _) hb; replace k0 := keepAt hb k0; replace HR := Lib.hid (reads2At hb HR.out); clear hb))
    refine (contactsOf_any p _ xss _ HR.out HC.out.1 HC.out.2.1).mono ?_
    rintro e w2 ⟨u2, rfl, oc, hb⟩
    have hL2 := chain (B := w.heap.size) (a := w) hL (Nat.le_refl _) hb
    have HOC := Lib.hid oc.reads
    clear hb oc
    go_wp2_with fail
    refine (closedInRow_any _ xss row _ HOC.out HC.out.1 HC.out.2.2.1 HB.out.1 (by have := HB.out; omega)).mono ?_
    rintro e w3 ⟨rfl, hb⟩
    have hL3 := chain (B := w.heap.size) (a := w) hL2 (Nat.le_refl _) hb
    clear hb
    go_wp2_with fail
    refine (membersOf_any _ _ HS.out.1 (by have := HS.out; omega)).mono ?_
    rintro e w4 ⟨u4, rfl, oo, hb⟩
    have hL4 := chain (B := w.heap.size) (a := w) hL3 (Nat.le_refl _) hb
    have hz3 := hL3.size
    clear hb
    go_wp2_with fail
    go_ret2
    exact ⟨_, by rw [hr2.out]; rfl, by rw [hr1.out]; exact oo.mono hz3, hL4⟩

set_option maxRecDepth 100000 in
set_option maxHeartbeats 2000000 in
theorem sClosedContacts_any (p : Int) (v : Value) (xss : List (List Int)) (row : Int) (w : World) (ha : Reads2 w v xss) :
    Calls Try.prog 35 #[.agg #[.int .i64 p, v], .int .i64 row] w fun e w' => ∃ u, e = .returned (.tuple #[u, .int .i64 (ccCode p xss row)]) ∧ Owns w' w.heap.size u (ccList p xss row) ∧ Below w.heap.size w w' := by
  have HR := Lib.hid (ha.keep ((Below.refl _ _).alloc (Nat.le_refl _) (.cells #[.int .i64 p, v] 26)))
  obtain ⟨a, ca, rfl, hm, _⟩ := ha
  have k0 := C2.here w (.int .i64 p) (.slice a xss.length ca) 26
  have HP : Hid (Reads (w.alloc (.cells #[.int .i64 p, .slice a xss.length ca] 26)) (.slice none 0 0) []) := ⟨none, 0, rfl, by simp, .inl rfl⟩
  obtain ⟨z, hz⟩ : ∃ z, ccCode p xss row = z := ⟨_, rfl⟩
  have HZ : Hid (netCode p xss row [] = z) := hz
  have HCC : Hid (ccCode p xss row = z) := hz
  by_cases h0 : z = 0
  · subst h0
    have hN : Net p xss ∧ (0 ≤ row ∧ row ≤ 31) := by
      rcases netCode_cases p xss row [] with ⟨_, h⟩ | ⟨_, _, h⟩ | ⟨h1, h2, _⟩
      · rw [HZ.out] at h; omega
      · rw [HZ.out] at h; omega
      · exact ⟨h1, h2.1⟩
    obtain ⟨hN, hb⟩ := hN
    have hr1 : Hid (ccList p xss row = onesTo (closedS xss row) 62) := by unfold Hid ccList; rw [HZ.out]; rfl
    have HB := Lib.hid hb
    have HC := Lib.hid (net_con hN)
    have HS := Lib.hid (closedS_bd xss row (net_con hN).1)
    clear hz hN hb
    go_enter Try.func35, Try.ntmps35
    go_wp2_with (go_at_call 80; (with_reducible refine (l02Code_b _ _ _ _ xss _ _ HR.out HP.out HZ.out).mono ?_); rintro e w' ⟨rfl, hb⟩; have hL := chain (B := w.heap.size) (a := w) (by go_grown) (Nat.le_refl _) hb; replace k0 := keepAt hb k0; replace HR := Lib.hid (reads2At hb HR.out); clear hb)
    refine (l02Set_any p _ xss row _ HR.out HC.out.1 HC.out.2.2.2 HB.out.1 (by have := HB.out; omega)).mono ?_
    rintro e w3 ⟨rfl, hb⟩
    have hL3 := chain (B := w.heap.size) (a := w) hL (Nat.le_refl _) hb
    clear hb
    go_wp2_with fail
    refine (l02List_any _ _ HS.out.1 (by have := HS.out; omega)).mono ?_
    rintro e w4 ⟨u4, rfl, oo, hb⟩
    have hL4 := chain (B := w.heap.size) (a := w) hL3 (Nat.le_refl _) hb
    have hz3 := hL3.size
    clear hb
    go_wp2_with fail
    go_ret2
    exact ⟨_, by rw [HCC.out]; rfl, by rw [hr1.out]; exact oo.mono hz3, hL4⟩
  · have hr1 : Hid (ccList p xss row = []) := by unfold Hid ccList; rw [HZ.out, if_neg h0]
    have hd : (z != 0) = true := by simp [h0]
    have hd2 : (z == 0) = false := by simp [h0]
    clear hz h0
    go_enter Try.func35, Try.ntmps35
    go_wp2_with (go_at_call 80; (with_reducible refine (l02Code_b _ _ _ _ xss _ _ HR.out HP.out HZ.out).mono ?_); rintro e w' ⟨rfl, hb⟩; have hL := chain (B := w.heap.size) (a := w) (by go_grown) (Nat.le_refl _) hb; clear hb)
    go_ret2
    exact ⟨_, by rw [HCC.out]; rfl, by rw [hr1.out]; exact World.ownsRow_nil _ _ _ _, hL⟩

end Go.Proofs.Ytlihnknlpbokiaa
