/- TableBetween: the model's, whole, and the program's. -/
import Derived.Test.YtlihnknlpbokiabTB2
import Derived.Test.YtlihnknlpbokiabCodeM
namespace Go.Proofs.Ytlihnknlpbokiab
open Go.RowKit
set_option linter.unusedVariables false

theorem two_pts {p a b : Int} : (∀ i, i < [a, b].length → 0 ≤ [a, b].getD i 0 ∧ [a, b].getD i 0 ≤ p - 1) ↔ ((0 ≤ a ∧ a < p) ∧ (0 ≤ b ∧ b < p)) := by
  constructor
  · intro h
    have h0 := h 0 (by simp)
    have h1 := h 1 (by simp)
    simp at h0 h1; omega
  · intro h i hi
    have hi2 : i = 0 ∨ i = 1 := by have : i < 2 := by simpa using hi
                                   omega
    rcases hi2 with rfl | rfl
    · simp; omega
    · simp; omega

set_option maxRecDepth 100000 in
set_option maxHeartbeats 2000000 in
theorem sTableBetween_any (p : Int) (v : Value) (xss : List (List Int)) (n pt q : Int) (w : World) (ha : Reads2 w v xss) :
    Calls Try.prog 13 #[.agg #[.int .i64 p, v], .int .i64 n, .int .i64 pt, .int .i64 q] w fun e w' => e = .returned (tbRes p xss n pt q) ∧ Below w.heap.size w w' := by
  have HR := Lib.hid ha
  obtain ⟨a, ca, rfl, _, _⟩ := ha
  have k0 : C2 (((w.alloc (.cells #[.int .i64 p, .slice a xss.length ca] 30)).alloc (.cells #[.int .i64 0, .int .i64 0] 27)).alloc (.cells #[.int .i64 pt, .int .i64 q] 2)) w.heap.size (.int .i64 p) (.slice a xss.length ca) := ((C2.here w _ _ _).alloc _).alloc _
  have k1 : C2 (((w.alloc (.cells #[.int .i64 p, .slice a xss.length ca] 30)).alloc (.cells #[.int .i64 0, .int .i64 0] 27)).alloc (.cells #[.int .i64 pt, .int .i64 q] 2)) (w.heap.size + 1) (.int .i64 0) (.int .i64 0) := by simpa using (C2.here (w.alloc (.cells #[.int .i64 p, .slice a xss.length ca] 30)) (.int .i64 0) (.int .i64 0) 27).alloc (.cells #[.int .i64 pt, .int .i64 q] 2)
  have HP : Hid (Reads (((w.alloc (.cells #[.int .i64 p, .slice a xss.length ca] 30)).alloc (.cells #[.int .i64 0, .int .i64 0] 27)).alloc (.cells #[.int .i64 pt, .int .i64 q] 2)) (.slice (some ⟨w.heap.size + 1 + 1, 0, none⟩) 2 2) [pt, q]) := by
    refine ⟨_, 2, rfl, by unfold maxLen; simp, .inr ⟨w.heap.size + 1 + 1, 0, rfl, fun i hi => ?_⟩⟩
    have hi2 : i = 0 ∨ i = 1 := by have : i < 2 := by simpa using hi
                                   omega
    rw [World.cell?_alloc_at _ _ _ _ (by simp)]
    rcases hi2 with rfl | rfl <;> rfl
  obtain ⟨z, hz⟩ : ∃ z, netCode p xss 0 [pt, q] = z := ⟨_, rfl⟩
  have HZ := Lib.hid hz
  by_cases h0 : z = 0
  · subst h0
    have hN : Net p xss ∧ ((0 ≤ pt ∧ pt < p) ∧ (0 ≤ q ∧ q < p)) := by
      rcases netCode_cases p xss 0 [pt, q] with ⟨_, h⟩ | ⟨_, _, h⟩ | ⟨h1, h2, _⟩
      · rw [HZ.out] at h; omega
      · rw [HZ.out] at h; omega
      · exact ⟨h1, two_pts.1 h2.2⟩
    obtain ⟨hN, hp, hq⟩ := hN
    have HN := Lib.hid hN
    have HC := Lib.hid (net_con hN)
    have hin : (inpTo xss xss.length ≤ n ∧ n ≤ 5) ↔ tbOk p xss n pt q := by
      rw [inpTo_ge]; unfold tbOk
      constructor
      · rintro ⟨⟨h1, h2⟩, h3⟩; exact ⟨⟨h1, h3⟩, hp, hq, h2⟩
      · rintro ⟨⟨h1, h3⟩, _, _, h2⟩; exact ⟨⟨h1, h2⟩, h3⟩
    by_cases hok : tbOk p xss n pt q
    · have HI : Hid (inpTo xss xss.length ≤ n ∧ n ≤ 5) := hin.2 hok
      have hr : Hid (tbRes p xss n pt q = .tuple #[.agg #[.int .i64 n, .int .i64 (buildZ (betw xss pt q) (2 ^ n.toNat))], .int .i64 0]) := by unfold Hid tbRes; rw [if_pos hN, if_pos hok]
      have HB : Hid ((1 ≤ n ∧ n ≤ 5) ∧ (0 ≤ pt ∧ pt < 8) ∧ (0 ≤ q ∧ q < 8)) := ⟨hok.1, ⟨hp.1, by have := hN.2.1; omega⟩, ⟨hq.1, by have := hN.2.1; omega⟩⟩
      clear hz hN hp hq hin hok
      go_enter Try.func13, Try.ntmps13
      go_wp2_with fail
      refine (l02Code_b _ _ _ _ xss _ _ (HR.out.keep (by go_grown)) HP.out HZ.out).mono ?_
      rintro e w1 ⟨rfl, hb⟩
      have hL := chain (B := w.heap.size) (a := w) (by go_grown) (Nat.le_refl _) hb
      replace k0 := keepAt hb k0
      replace k1 := keepAt hb k1
      clear hb HP
      go_wp2_with (first | (go_at_call 44; (with_reducible refine (l01In_yes _ _ _ _ HI.out).mono ?_); rintro e w' ⟨rfl, rfl⟩) | (go_at_call 45; (with_reducible refine (l02Inputs_any _ _ xss _ (HR.out.keep hL) HC.out.2.1 HC.out.2.2.1 HC.out.1).mono ?_); rintro e w2 ⟨rfl, hb⟩; have hL := chain (B := w.heap.size) (a := w) hL (Nat.le_refl _) hb; replace k0 := keepAt hb k0; replace k1 := keepAt hb k1; clear hb))
      refine (l02Table_any _ _ xss n pt q _ (HR.out.keep (by first | assumption | go_grown)) HN.out HB.out.1.1 HB.out.1.2 HB.out.2.1.1 HB.out.2.1.2 HB.out.2.2.1 HB.out.2.2.2).mono ?_
      rintro e w3 ⟨rfl, hb⟩
      have hL := chain (B := w.heap.size) (a := w) (by first | assumption | go_grown) (Nat.le_refl _) hb
      replace k0 := keepAt hb k0
      replace k1 := keepAt hb k1
      clear hb
      go_wp2_with fail
      refine bodyPost_ret (v := .tuple #[.agg #[.int .i64 n, .int .i64 (buildZ (betw xss pt q) (2 ^ n.toNat))], .int .i64 0]) (by simp [results, Try.results13, go_sem, *]) rfl ?_
      exact ⟨by rw [hr.out], by go_grown⟩
    · have HI : Hid (¬ (inpTo xss xss.length ≤ n ∧ n ≤ 5)) := fun h => hok (hin.1 h)
      have hr : Hid (tbRes p xss n pt q = .tuple #[.agg #[.int .i64 0, .int .i64 0], .int .i64 2]) := by unfold Hid tbRes; rw [if_pos hN, if_neg hok]
      clear hz hN hp hq hin hok
      go_enter Try.func13, Try.ntmps13
      go_wp2_with fail
      refine (l02Code_b _ _ _ _ xss _ _ (HR.out.keep (by go_grown)) HP.out HZ.out).mono ?_
      rintro e w1 ⟨rfl, hb⟩
      have hL := chain (B := w.heap.size) (a := w) (by go_grown) (Nat.le_refl _) hb
      replace k0 := keepAt hb k0
      replace k1 := keepAt hb k1
      clear hb HP
      go_wp2_with (first | (go_at_call 44; (with_reducible refine (l01In_no _ _ _ _ HI.out).mono ?_); rintro e w' ⟨rfl, rfl⟩) | (go_at_call 45; (with_reducible refine (l02Inputs_any _ _ xss _ (HR.out.keep hL) HC.out.2.1 HC.out.2.2.1 HC.out.1).mono ?_); rintro e w2 ⟨rfl, hb⟩; have hL := chain (B := w.heap.size) (a := w) hL (Nat.le_refl _) hb; replace k0 := keepAt hb k0; replace k1 := keepAt hb k1; clear hb))
      refine bodyPost_ret (v := .tuple #[.agg #[.int .i64 0, .int .i64 0], .int .i64 2]) (by simp [results, Try.results13, go_sem, *]) rfl ?_
      exact ⟨by rw [hr.out], by first | assumption | go_grown⟩
  · have hr : Hid (tbRes p xss n pt q = .tuple #[.agg #[.int .i64 0, .int .i64 0], .int .i64 z]) := by
      unfold Hid tbRes
      rcases netCode_cases p xss 0 [pt, q] with ⟨h1, h⟩ | ⟨h1, h2, h⟩ | ⟨_, _, h⟩
      · rw [if_neg h1, ← h, hz]
      · have hno : ¬ tbOk p xss n pt q := fun hk => h2 ⟨by omega, two_pts.2 ⟨hk.2.1, hk.2.2.1⟩⟩
        rw [if_pos h1, if_neg hno, ← h, hz]
      · exact absurd (hz.symm.trans h) h0
    have hd : (z != 0) = true := by simp [h0]
    have hd2 : (z == 0) = false := by simp [h0]
    clear hz h0
    go_enter Try.func13, Try.ntmps13
    go_wp2_with fail
    refine (l02Code_b _ _ _ _ xss _ _ (HR.out.keep (by go_grown)) HP.out HZ.out).mono ?_
    rintro e w1 ⟨rfl, hb⟩
    have hL := chain (B := w.heap.size) (a := w) (by go_grown) (Nat.le_refl _) hb
    replace k1 := keepAt hb k1
    clear hb HP k0
    go_wp2_with fail
    refine bodyPost_ret (v := .tuple #[.agg #[.int .i64 0, .int .i64 0], .int .i64 z]) (by simp [results, Try.results13, go_sem, *]) rfl ?_
    exact ⟨by rw [hr.out], by first | assumption | go_grown⟩

end Go.Proofs.Ytlihnknlpbokiab
