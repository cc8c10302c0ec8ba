/- TableBetween: the program's. -/
import Derived.Test.YtlihnknlpbokiabTB3
namespace Go.Proofs.Ytlihnknlpbokiab
open Go.RowKit
set_option linter.unusedVariables false

theorem digitAt_betw (xss : List (List Int)) (pt q : Int) (k : Nat) (hJ : joinS xss (inB (closedS xss (k : Int))) pt.toNat < 256) (w : World) (q0 : 0 ≤ q) (q1 : q < 8) :
    Calls Try.prog 53 #[.int .i64 ((joinS xss (inB (closedS xss (k : Int))) pt.toNat : Nat) : Int), .int .i64 q] w fun e w' => e = .returned (.int .i64 ((betw xss pt q k : Nat) : Int)) ∧ w = w' := by
  have h := digitAt_any ((joinS xss (inB (closedS xss (k : Int))) pt.toNat : Nat) : Int) q w (by omega) (by omega) q0 (by omega)
  have e : digZ ((joinS xss (inB (closedS xss (k : Int))) pt.toNat : Nat) : Int) q = ((betw xss pt q k : Nat) : Int) := by unfold digZ betw; rw [Int.toNat_natCast]
  rwa [e] at h

set_option maxRecDepth 100000 in
set_option maxHeartbeats 4000000 in
theorem iTableBetween_good (p : Int) (a : Option Addr) (ca : Nat) (xss : List (List Int)) (n pt q : Int) (w : World) (ha : Reads2 w (.slice a xss.length ca) xss) (hN : Net p xss) (n1 : 1 ≤ n) (n5 : n ≤ 5) (hp : 0 ≤ pt ∧ pt < p) (hq : 0 ≤ q ∧ q < p) :
    Calls Try.prog 15 #[.agg #[.int .i64 p, .slice a xss.length ca], .int .i64 n, .int .i64 pt, .int .i64 q] w fun e w' => e = .returned (tbRes p xss n pt q) ∧ Below w.heap.size w w' := by
  have HR := Lib.hid ha
  have HC := Lib.hid (net_con hN)
  have H8 := Lib.hid (net_pts hN)
  have HNT : Hid (decide (Net p xss) = true) := decide_eq_true hN
  have HPQ : Hid (0 ≤ pt ∧ pt < p) := hp
  have HQP : Hid (0 ≤ q ∧ q < p) := hq
  have HB : Hid ((0 ≤ pt ∧ pt < 8) ∧ (0 ≤ q ∧ q < 8)) := ⟨⟨hp.1, by have := hN.2.1; omega⟩, ⟨hq.1, by have := hN.2.1; omega⟩⟩
  have HJ : Hid (∀ k : Nat, joinS xss (inB (closedS xss (k : Int))) pt.toNat < 256) := fun k => joinS_lt (net_pts hN) _ (by have := HB.out; omega)
  have HS : Hid (∀ k : Nat, 0 ≤ closedS xss (k : Int) ∧ closedS xss (k : Int) < 9223372036854775808) := fun k => by have := closedS_bd xss (k : Int) (net_con hN).1; omega
  have Hr : Hid (rcZ n = ((2 ^ n.toNat : Nat) : Int)) := rfl
  have hr := rcZ_bd n1 n5
  obtain ⟨j, hj, hok, hbad⟩ := firstBad (fun i => (xss.getD i []).getD 2 0 < n) xss.length
  have HBAD : Hid (j < xss.length → tbRes p xss n pt q = .tuple #[.agg #[.int .i64 0, .int .i64 0], .int .i64 2]) := fun h => by unfold tbRes; rw [if_pos hN, if_neg (fun hk => hbad h (hk.2.2.2 j h))]
  have HGOOD : Hid (j = xss.length → tbRes p xss n pt q = .tuple #[.agg #[.int .i64 n, .int .i64 (buildZ (betw xss pt q) (2 ^ n.toNat))], .int .i64 0]) := fun h => by unfold tbRes; rw [if_pos hN, if_pos ⟨⟨n1, n5⟩, hp, hq, by subst h; exact hok⟩]
  have Hok := Lib.hid hok
  have Hbad := Lib.hid hbad
  clear hN hp hq hok hbad ha
  have k0 : C2 ((w.alloc (.cells #[.int .i64 p, .slice a xss.length ca] 30)).alloc (.cells #[.int .i64 0, .int .i64 0] 27)) w.heap.size (.int .i64 p) (.slice a xss.length ca) := (C2.here w _ _ _).alloc _
  have k1 : C2 ((w.alloc (.cells #[.int .i64 p, .slice a xss.length ca] 30)).alloc (.cells #[.int .i64 0, .int .i64 0] 27)) (w.heap.size + 1) (.int .i64 0) (.int .i64 0) := by simpa using C2.here (w.alloc (.cells #[.int .i64 p, .slice a xss.length ca] 30)) (.int .i64 0) (.int .i64 0) 27
  go_enter Try.func15, Try.ntmps15
  go_wp2_with fail
  refine (isNetwork_b _ _ xss _ (HR.out.keep (by go_grown)) HNT.out).mono ?_
  rintro e wn ⟨rfl, hb⟩
  have hL := chain (B := w.heap.size) (a := w) (by go_grown) (Nat.le_refl _) hb
  replace k0 := keepAt hb k0
  replace k1 := keepAt hb k1
  clear hb
  go_wp2_with (first | (go_at_call 49; (with_reducible refine (isInputCount_yes _ _ n1 n5).mono ?_); rintro e w' ⟨rfl, rfl⟩) | (go_at_call 50; (with_reducible refine (isBelow_yes _ _ _ HPQ.out).mono ?_); rintro e w' ⟨rfl, rfl⟩) | (go_at_call 50; (with_reducible refine (isBelow_yes _ _ _ HQP.out).mono ?_); rintro e w' ⟨rfl, rfl⟩))
  refine (contactsOf_any p _ xss _ (HR.out.keep hL) HC.out.1 HC.out.2.1).mono ?_
  rintro e w2 ⟨u2, rfl, oc, hb⟩
  have hL2 := chain (B := w.heap.size) (a := w) hL (Nat.le_refl _) hb
  replace k0 := keepAt hb k0
  replace k1 := keepAt hb k1
  have HOC0 := oc.reads
  clear hb oc hL
  have HOC := Lib.hid HOC0
  obtain ⟨ua, uc, rfl, _, hce⟩ := HOC0
  have Ha : Hid (∀ i, i < xss.length → ∃ b, ua = some ⟨b, 0, none⟩ ∧ ∀ j, j < 4 → w2.cell? ⟨b, i * 4 + j, none⟩ = some (.int .i64 ((xss.getD i []).getD j 0))) := fun i hi => by
    rcases hce with rfl | ⟨b, rfl, ha⟩
    · simp at hi
    · exact ⟨b, rfl, ha i hi⟩
  clear hce
  have hn12 := HC.out.1
  have hsz2 := hL2.size
  have HL2 := Lib.hid hL2
  clear hL2
  go_wp2_with fail
  go_loopw [41] (fun c wr => ∃ k : Nat, k ≤ j ∧ c = .int .i64 (k : Int) ∧ Below w2.heap.size w2 wr ∧ C2 wr w.heap.size (.int .i64 p) (.slice a xss.length ca) ∧ C2 wr (w.heap.size + 1) (.int .i64 0) (.int .i64 0)) (fun c _ => xss.length - (intOf c).toNat)
  case atStart => exact ⟨0, Nat.zero_le _, rfl, Below.refl _ _, k0, k1⟩
  case round =>
    clear k0 k1
    obtain ⟨k, hk, rfl, hM, k0, k1⟩ := hrel
    by_cases hlt : k < xss.length
    · obtain ⟨b, hua, hcs⟩ := Ha.out k hlt
      subst hua
      have c0 := cell_later hM (hcs 0 (by omega))
      have c1 := cell_later hM (hcs 1 (by omega))
      have c2 := cell_later hM (hcs 2 (by omega))
      have c3 := cell_later hM (hcs 3 (by omega))
      simp only [Nat.add_zero] at c0
      have hi1 : (k : Int) < (xss.length : Int) := by omega
      have hi0 : (0 : Int) ≤ (k : Int) := by omega
      have hz := hM.size
      clear hcs
      by_cases hlow : (xss.getD k []).getD 2 0 < n
      · have hkj : k < j := by
          rcases Nat.lt_or_ge k j with h1 | h1
          · exact h1
          · have e : k = j := by omega
            subst e
            exact absurd hlow (Int.not_lt.2 (Hbad.out hlt))
        generalize (xss.getD k []).getD 0 0 = x0 at *
        generalize (xss.getD k []).getD 1 0 = x1 at *
        generalize (xss.getD k []).getD 2 0 = x2 at *
        generalize (xss.getD k []).getD 3 0 = x3 at *
        have hle : ¬ n ≤ x2 := by omega
        go_wp2_with fail
        go_roundw
        case rel => exact ⟨k + 1, by omega, by go_num, hM.alloc hz _, k0.alloc _, k1.alloc _⟩
        case measure => simp [intOf]; omega
      · have hres : Hid (tbRes p xss n pt q = .tuple #[.agg #[.int .i64 0, .int .i64 0], .int .i64 2]) := HBAD.out (by
          rcases Nat.lt_or_ge k j with h1 | h1
          · exact absurd (Hok.out k h1) hlow
          · omega)
        generalize (xss.getD k []).getD 0 0 = x0 at *
        generalize (xss.getD k []).getD 1 0 = x1 at *
        generalize (xss.getD k []).getD 2 0 = x2 at *
        generalize (xss.getD k []).getD 3 0 = x3 at *
        have hle : n ≤ x2 := by omega
        have hLA : Below w.heap.size w (wr.alloc (.cells #[.int .i64 x0, .int .i64 x1, .int .i64 x2, .int .i64 x3] 61)) := (HL2.out.trans (hM.mono hsz2)).alloc (by omega) _
        replace k1 := k1.alloc (.cells #[.int .i64 x0, .int .i64 x1, .int .i64 x2, .int .i64 x3] 61)
        go_wp2_with fail
        refine bodyPost_ret (v := .tuple #[.agg #[.int .i64 0, .int .i64 0], .int .i64 2]) (by simp [results, Try.results15, go_sem, *]) rfl ?_
        exact ⟨by rw [hres.out], by go_grown⟩
    · have hres : Hid (tbRes p xss n pt q = .tuple #[.agg #[.int .i64 n, .int .i64 (buildZ (betw xss pt q) (2 ^ n.toNat))], .int .i64 0]) := HGOOD.out (by omega)
      have hge : ¬ (k : Int) < (xss.length : Int) := by omega
      have HOW := Lib.hid (HOC.out.keep hM)
      have hLw : Below w.heap.size w wr := HL2.out.trans (hM.mono hsz2)
      have hszw := hLw.size
      obtain ⟨wo, hwo⟩ : ∃ wo : World, wo = wr := ⟨_, rfl⟩
      have HLW : Hid (Below w.heap.size w wo) := by rw [hwo]; exact hLw
      subst hwo
      clear hLw hM hj hk hlt
      have HZ1 : Hid (w.heap.size + 1 < wo.heap.size) := k1.2.2.2.2
      have kt := C2.here wo (.int .i64 n) (.int .i64 0) 27
      replace k0 := k0.alloc (.cells #[.int .i64 n, .int .i64 0] 27)
      replace k1 := k1.alloc (.cells #[.int .i64 n, .int .i64 0] 27)
      go_wp2_with ((go_at_call 52; (with_reducible refine (rowCount_any _ _ n1 n5).mono ?_); rintro e w' ⟨rfl, rfl⟩))
      go_loopw [55] (fun c wr => ∃ k : Nat, (k : Int) ≤ rcZ n ∧ c = .int .i64 (k : Int) ∧ Below wo.heap.size wo wr ∧ C2 wr w.heap.size (.int .i64 p) (.slice a xss.length ca) ∧ C2 wr (w.heap.size + 1) (.int .i64 0) (.int .i64 0) ∧ C2 wr wo.heap.size (.int .i64 n) (.int .i64 (buildZ (betw xss pt q) k))) (fun c _ => (rcZ n - intOf c).toNat)
      case atStart => exact ⟨0, by omega, rfl, by go_grown, k0, k1, kt⟩
      case round =>
        clear k0 k1 kt
        obtain ⟨k, hk, rfl, hM, k0, k1, kt⟩ := hrel
        by_cases hlt : (k : Int) < rcZ n
        · have hJ := HJ.out k
          have hk32 : k < 32 := by omega
          have HK : Hid (0 ≤ (k : Int) ∧ (k : Int) < 9223372036854775808) := ⟨by omega, by omega⟩
          have HJk := Lib.hid hJ
          have Hs := Lib.hid (build_stepG (betw xss pt q) k hk32 (betw_lt _ _ _ _))
          have HSk : Hid (0 ≤ closedS xss (k : Int) ∧ closedS xss (k : Int) < 9223372036854775808) := HS.out k
          clear hJ
          go_wp2_with fail
          go_region_with (first
            | (go_at_call 55; (with_reducible refine (closedInRow_any _ xss _ _ (HOW.out.keep (by go_grown)) HC.out.1 HC.out.2.2.1 HK.out.1 HK.out.2).mono ?_); rintro e w3 ⟨rfl, hb⟩; have hM := chain (B := wo.heap.size) (a := wo) (by go_grown) (Nat.le_refl _) hb; replace k0 := keepAt hb (show C2 _ _ _ _ from k0); replace k1 := keepAt hb (show C2 _ _ _ _ from k1); replace kt := keepAt hb (show C2 _ _ _ _ from kt); clear hb)
            | (go_at_call 54; (with_reducible refine (joinedWith_any _ xss _ pt (inB (closedS xss (k : Int))) _ (HOW.out.keep (by go_grown)) HC.out.1 HB.out.1.1 HB.out.1.2 H8.out (fun i w hi => digitAt_inB HC.out.1 HSk.out.1 HSk.out.2 i w hi)).mono ?_); rintro e w3 ⟨rfl, hb⟩; have hM := chain (B := wo.heap.size) (a := wo) (by go_grown) (Nat.le_refl _) hb; replace k0 := keepAt hb (show C2 _ _ _ _ from k0); replace k1 := keepAt hb (show C2 _ _ _ _ from k1); replace kt := keepAt hb (show C2 _ _ _ _ from kt); clear hb)
            | (go_at_call 53; (with_reducible refine (digitAt_betw xss pt q k HJk.out _ HB.out.2.1 HB.out.2.2).mono ?_); rintro e w' ⟨rfl, rfl⟩))
          all_goals (go_wp2_with fail)
          all_goals (rw [Hs.out]; exact ⟨⟨k + 1, by omega, by go_num, by go_grown, k0.set _ _ _ (by have := HZ1.out; omega), k1.set _ _ _ (by have := HZ1.out; omega), kt.put1 _⟩, by simp [intOf]; omega⟩)
        · have Hk : Hid ((k : Nat) = 2 ^ n.toNat) := by have := Hr.out; unfold Hid; omega
          rw [Hk.out] at kt
          have hLF : Below w.heap.size w wr := HLW.out.trans (hM.mono hszw)
          go_wp2_with fail
          refine bodyPost_ret (v := .tuple #[.agg #[.int .i64 n, .int .i64 (buildZ (betw xss pt q) (2 ^ n.toNat))], .int .i64 0]) (by simp [results, Try.results15, go_sem, *]) rfl ?_
          exact ⟨by rw [hres.out], by go_grown⟩

end Go.Proofs.Ytlihnknlpbokiab
