/- PointsWith: the program's and the model's. -/
import Derived.Test.YtlihnknlpbokiaaCC
import Derived.Test.YtlihnknlpbokiaaSJoin
import Derived.Deep.RegionWith
namespace Go.Proofs.Ytlihnknlpbokiaa
open Go.RowKit
set_option linter.unusedVariables false

/-- what PointsWith gives -/
def pwCode (p : Int) (xss : List (List Int)) (row pt : Int) : Int := netCode p xss row [pt]
def pwList (p : Int) (xss : List (List Int)) (row pt : Int) : List Int := if netCode p xss row [pt] = 0 then onesTo ((joinS xss (inB (closedS xss row)) pt.toNat : Nat) : Int) 62 else []
theorem pwList_len (p : Int) (xss : List (List Int)) (row pt : Int) : (pwList p xss row pt).length ≤ 1000 := by
  unfold pwList; split
  · have := onesTo_len ((joinS xss (inB (closedS xss row)) pt.toNat : Nat) : Int) 62; omega
  · simp
theorem one_pt {p pt : Int} : (∀ i, i < [pt].length → 0 ≤ [pt].getD i 0 ∧ [pt].getD i 0 ≤ p - 1) ↔ (0 ≤ pt ∧ pt < p) := by
  constructor
  · intro h; have := h 0 (by simp); simp at this; omega
  · intro h i hi
    have : i = 0 := by simpa using hi
    subst this; simp; omega

set_option maxRecDepth 100000 in
set_option maxHeartbeats 2000000 in
theorem iPointsWith_any (p : Int) (v : Value) (xss : List (List Int)) (row pt : Int) (w : World) (ha : Reads2 w v xss) :
    Calls Try.prog 32 #[.agg #[.int .i64 p, v], .int .i64 row, .int .i64 pt] w fun e w' => ∃ u, e = .returned (.tuple #[u, .int .i64 (pwCode p xss row pt)]) ∧ Owns w' w.heap.size u (pwList p xss row pt) ∧ Below w.heap.size w w' := by
  have HR := Lib.hid (ha.keep ((Below.refl _ _).alloc (Nat.le_refl _) (.cells #[.int .i64 p, v] 26)))
  obtain ⟨a, ca, rfl, hm, _⟩ := ha
  have k0 := C2.here w (.int .i64 p) (.slice a xss.length ca) 26
  rcases netCode_cases p xss row [pt] with ⟨hN, hc⟩ | ⟨hN, hb, hc⟩ | ⟨hN, hb, hc⟩
  · have HN : Hid (decide (Net p xss) = false) := decide_eq_false hN
    have hr1 : Hid (pwList p xss row pt = []) := by unfold Hid pwList; rw [hc]; rfl
    have hr2 : Hid (pwCode p xss row pt = 1) := hc
    clear hc hN
    go_enter Try.func32, Try.ntmps32
    go_wp2_with (go_at_call 26; (with_reducible refine (isNetwork_b _ _ xss _ HR.out HN.out).mono ?_); rintro e w' ⟨rfl, hb⟩; have hL := chain (B := w.heap.size) (a := w) (by go_grown) (Nat.le_refl _) hb; clear hb)
    go_ret2
    exact ⟨_, by rw [hr2.out]; rfl, by rw [hr1.out]; exact World.ownsRow_nil _ _ _ _, hL⟩
  · have HN : Hid (decide (Net p xss) = true) := decide_eq_true hN
    have hr1 : Hid (pwList p xss row pt = []) := by unfold Hid pwList; rw [hc]; rfl
    have hr2 : Hid (pwCode p xss row pt = 2) := hc
    rw [one_pt] at hb
    by_cases hrow : 0 ≤ row ∧ row < 32
    · have HB := Lib.hid hrow
      have HB2 : Hid (¬ (0 ≤ pt ∧ pt < p)) := fun h => hb ⟨⟨hrow.1, by omega⟩, h⟩
      clear hc hN hb hrow
      go_enter Try.func32, Try.ntmps32
      go_wp2_with (first | (go_at_call 73; (with_reducible refine (rowCount5 _).mono ?_); rintro e w' ⟨rfl, rfl⟩) | (go_at_call 72; (with_reducible refine (isBelow_yes _ _ _ HB.out).mono ?_); rintro e w' ⟨rfl, rfl⟩) | (go_at_call 72; (with_reducible refine (isBelow_no _ _ _ HB2.out).mono ?_); rintro e w' ⟨rfl, rfl⟩) | (go_at_call 26; (with_reducible refine (isNetwork_b _ _ xss _ HR.out HN.out).mono ?_); rintro e w' ⟨rfl, hb⟩; have hL := chain (B := w.heap.size) (a := w) (by go_grown) (Nat.le_refl _) hb; replace k0 := keepAt hb k0; clear hb))
      go_ret2
      exact ⟨_, by rw [hr2.out]; rfl, by rw [hr1.out]; exact World.ownsRow_nil _ _ _ _, hL⟩
    · have HB := Lib.hid hrow
      clear hc hN hb hrow
      go_enter Try.func32, Try.ntmps32
      go_wp2_with (first | (go_at_call 73; (with_reducible refine (rowCount5 _).mono ?_); rintro e w' ⟨rfl, rfl⟩) | (go_at_call 72; (with_reducible refine (isBelow_no _ _ _ HB.out).mono ?_); rintro e w' ⟨rfl, rfl⟩) | (go_at_call 26; (with_reducible refine (isNetwork_b _ _ xss _ HR.out HN.out).mono ?_); rintro e w' ⟨rfl, hb⟩; have hL := chain (B := w.heap.size) (a := w) (by go_grown) (Nat.le_refl _) hb; replace k0 := keepAt hb k0; clear hb))
      go_ret2
      exact ⟨_, by rw [hr2.out]; rfl, by rw [hr1.out]; exact World.ownsRow_nil _ _ _ _, hL⟩
  · have HN : Hid (decide (Net p xss) = true) := decide_eq_true hN
    have hr1 : Hid (pwList p xss row pt = onesTo ((joinS xss (inB (closedS xss row)) pt.toNat : Nat) : Int) 62) := by unfold Hid pwList; rw [hc]; rfl
    have hr2 : Hid (pwCode p xss row pt = 0) := hc
    rw [one_pt] at hb
    have HB : Hid (0 ≤ row ∧ row < 32) := ⟨hb.1.1, by have := hb.1.2; omega⟩
    have HB2 : Hid (0 ≤ pt ∧ pt < p) := hb.2
    have HB3 : Hid (pt < 8) := by have := hN.2.1; have := hb.2.2; unfold Hid; omega
    have HC := Lib.hid (net_con hN)
    have HS := Lib.hid (closedS_bd xss row (net_con hN).1)
    have H8 := Lib.hid (net_pts hN)
    have HJ := Lib.hid (joinS_lt (net_pts hN) (inB (closedS xss row)) (p := pt.toNat) (by have := HB3.out; omega))
    clear hc hN hb
    go_enter Try.func32, Try.ntmps32
    go_wp2_with (first | (go_at_call 73; (with_reducible refine (rowCount5 _).mono ?_); rintro e w' ⟨rfl, rfl⟩) | (go_at_call 72; (with_reducible refine (isBelow_yes _ _ _ HB.out).mono ?_); rintro e w' ⟨rfl, rfl⟩) | (go_at_call 72; (with_reducible refine (isBelow_yes _ _ _ HB2.out).mono ?_); rintro e w' ⟨rfl, rfl⟩) | (go_at_call 26; (with_reducible refine (isNetwork_b _ _ xss _ HR.out HN.out).mono ?_); rintro e w' ⟨rfl, hb⟩; have hL := chain (B := w.heap.size) (a := w) (by go_grown) (Nat.le_refl _) hb; replace k0 := keepAt hb k0; replace HR := Lib.hid (reads2At hb HR.out); clear hb))
    refine (contactsOf_any p _ xss _ HR.out HC.out.1 HC.out.2.1).mono ?_
    rintro e w2 ⟨u2, rfl, oc, hb⟩
    have hL2 := chain (B := w.heap.size) (a := w) hL (Nat.le_refl _) hb
    have HOC := Lib.hid oc.reads
    clear hb oc
    go_wp2_with fail
    refine (closedInRow_any _ xss row _ HOC.out HC.out.1 HC.out.2.2.1 HB.out.1 (by have := HB.out; omega)).mono ?_
    rintro e w3 ⟨rfl, hb⟩
    have hL3 := chain (B := w.heap.size) (a := w) hL2 (Nat.le_refl _) hb
    replace HOC := Lib.hid (HOC.out.keep hb)
    clear hb
    go_wp2_with fail
    refine (joinedWith_any _ xss _ pt (inB (closedS xss row)) _ HOC.out HC.out.1 HB2.out.1 HB3.out H8.out (fun i w hi => digitAt_inB HC.out.1 HS.out.1 (by have := HS.out; omega) i w hi)).mono ?_
    rintro e w3 ⟨rfl, hb⟩
    have hL4 := chain (B := w.heap.size) (a := w) hL3 (Nat.le_refl _) hb
    clear hb
    go_wp2_with fail
    refine (membersOf_any _ _ (by omega) (by have := HJ.out; omega)).mono ?_
    rintro e w4 ⟨u4, rfl, oo, hb⟩
    have hL5 := chain (B := w.heap.size) (a := w) hL4 (Nat.le_refl _) hb
    have hz3 := hL4.size
    clear hb
    go_wp2_with fail
    go_ret2
    exact ⟨_, by rw [hr2.out]; rfl, by rw [hr1.out]; exact oo.mono hz3, hL5⟩

set_option maxRecDepth 100000 in
set_option maxHeartbeats 2000000 in
theorem sPointsWith_any (p : Int) (v : Value) (xss : List (List Int)) (row pt : Int) (w : World) (ha : Reads2 w v xss) :
    Calls Try.prog 33 #[.agg #[.int .i64 p, v], .int .i64 row, .int .i64 pt] w fun e w' => ∃ u, e = .returned (.tuple #[u, .int .i64 (pwCode p xss row pt)]) ∧ Owns w' w.heap.size u (pwList p xss row pt) ∧ Below w.heap.size w w' := by
  have HR := Lib.hid (ha.keep (((Below.refl _ _).alloc (Nat.le_refl _) (.cells #[.int .i64 p, v] 26)).alloc (by simp) (.cells #[.int .i64 pt] 2)))
  obtain ⟨a, ca, rfl, hm, _⟩ := ha
  have k0 := (C2.here w (.int .i64 p) (.slice a xss.length ca) 26).alloc (.cells #[.int .i64 pt] 2)
  have HP : Hid (Reads ((w.alloc (.cells #[.int .i64 p, .slice a xss.length ca] 26)).alloc (.cells #[.int .i64 pt] 2)) (.slice (some ⟨w.heap.size + 1, 0, none⟩) 1 1) [pt]) := by
    refine ⟨_, 1, rfl, by unfold maxLen; simp, .inr ⟨w.heap.size + 1, 0, rfl, fun i hi => ?_⟩⟩
    have : i = 0 := by simpa using hi
    subst this
    rw [World.cell?_alloc_at _ _ _ _ (by simp)]
    rfl
  obtain ⟨z, hz⟩ : ∃ z, pwCode p xss row pt = z := ⟨_, rfl⟩
  have HZ : Hid (netCode p xss row [pt] = z) := hz
  have HCC : Hid (pwCode p xss row pt = z) := hz
  by_cases h0 : z = 0
  · subst h0
    have hN : Net p xss ∧ (0 ≤ row ∧ row ≤ 31) ∧ (0 ≤ pt ∧ pt < p) := by
      rcases netCode_cases p xss row [pt] with ⟨_, h⟩ | ⟨_, _, h⟩ | ⟨h1, h2, _⟩
      · rw [HZ.out] at h; omega
      · rw [HZ.out] at h; omega
      · exact ⟨h1, h2.1, one_pt.1 h2.2⟩
    obtain ⟨hN, hb, hp⟩ := hN
    have hr1 : Hid (pwList p xss row pt = onesTo ((joinS xss (inB (closedS xss row)) pt.toNat : Nat) : Int) 62) := by unfold Hid pwList; rw [HZ.out]; rfl
    have HB := Lib.hid hb
    have HB2 : Hid (0 ≤ pt ∧ pt < 8) := ⟨hp.1, by have := hN.2.1; omega⟩
    have HC := Lib.hid (net_con hN)
    have HS : Hid (0 ≤ closedS xss row ∧ closedS xss row < 9223372036854775808) := by have := closedS_bd xss row (net_con hN).1; exact ⟨this.1, by omega⟩
    have HRW : Hid (0 ≤ row ∧ row < 9223372036854775808) := ⟨hb.1, by omega⟩
    have H8 := Lib.hid (net_pts hN)
    have HJ : Hid ((0 : Int) ≤ ((joinS xss (inB (closedS xss row)) pt.toNat : Nat) : Int) ∧ ((joinS xss (inB (closedS xss row)) pt.toNat : Nat) : Int) < 9223372036854775808) := by
      have := joinS_lt (net_pts hN) (inB (closedS xss row)) (p := pt.toNat) (by have := HB2.out; omega)
      unfold Hid; omega
    clear hz hN hb hp
    go_enter Try.func33, Try.ntmps33
    go_wp2_with (go_at_call 80; (with_reducible refine (l02Code_b _ _ _ _ xss _ _ HR.out HP.out HZ.out).mono ?_); rintro e w' ⟨rfl, hb⟩; have hL := chain (B := w.heap.size) (a := w) (by go_grown) (Nat.le_refl _) hb; replace k0 := keepAt hb k0; replace HR := Lib.hid (reads2At hb HR.out); clear hb)
    go_region_with (first
      | (go_at_call 83; (with_reducible refine (l02Set_any p _ xss row _ (HR.out.keep (Below.drew (Below.refl _ _))) HC.out.1 HC.out.2.2.2 HRW.out.1 HRW.out.2).mono ?_); rintro e w3 ⟨rfl, hb⟩; have hL := chain (B := w.heap.size) (a := w) (by go_grown) (Nat.le_refl _) hb; replace k0 := keepAt hb (show C2 _ _ _ _ from k0); replace HR := Lib.hid (reads2At hb (HR.out.keep (Below.drew (Below.refl _ _)))); clear hb)
      | (go_at_call 82; (with_reducible refine (l02Joined_any p _ xss _ pt _ HR.out HC.out.1 HC.out.2.1 H8.out HS.out.1 HS.out.2 HB2.out.1 HB2.out.2).mono ?_); rintro e w3 ⟨rfl, hb⟩; have hL := chain (B := w.heap.size) (a := w) (by go_grown) (Nat.le_refl _) hb; clear hb)
      | (go_at_call 81; (with_reducible refine (l02List_any _ _ HJ.out.1 HJ.out.2).mono ?_); rintro e w4 ⟨u4, rfl, oo, hb⟩; have hz3 := hL.size; have hL := chain (B := w.heap.size) (a := w) (by go_grown) (Nat.le_refl _) hb; clear hb))
    all_goals (go_wp2_with fail)
    all_goals go_ret2
    all_goals exact ⟨_, by rw [HCC.out]; rfl, by rw [hr1.out]; exact Owns.mono oo (by simpa using hz3), by first | assumption | go_grown⟩
  · have hr1 : Hid (pwList p xss row pt = []) := by unfold Hid pwList; rw [HZ.out, if_neg h0]
    have hd : (z != 0) = true := by simp [h0]
    have hd2 : (z == 0) = false := by simp [h0]
    clear hz h0
    go_enter Try.func33, Try.ntmps33
    go_wp2_with (go_at_call 80; (with_reducible refine (l02Code_b _ _ _ _ xss _ _ HR.out HP.out HZ.out).mono ?_); rintro e w' ⟨rfl, hb⟩; have hL := chain (B := w.heap.size) (a := w) (by go_grown) (Nat.le_refl _) hb; clear hb)
    go_ret2
    exact ⟨_, by rw [HCC.out]; rfl, by rw [hr1.out]; exact World.ownsRow_nil _ _ _ _, hL⟩

end Go.Proofs.Ytlihnknlpbokiaa
