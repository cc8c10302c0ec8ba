/- TableBetween: the model's table, and TableBetween of both. -/
import Derived.Test.YtlihnknlpbokiabTB
import Derived.Test.YtlihnknlpbokiabNetB
namespace Go.Proofs.Ytlihnknlpbokiab
open Go.RowKit
set_option linter.unusedVariables false

set_option maxRecDepth 100000 in
set_option maxHeartbeats 4000000 in
theorem l02Table_any (p : Int) (v : Value) (xss : List (List Int)) (n pt q : Int) (w : World) (ha : Reads2 w v xss) (hN : Net p xss) (n1 : 1 ≤ n) (n5 : n ≤ 5) (p0 : 0 ≤ pt) (p1 : pt < 8) (q0 : 0 ≤ q) (q1 : q < 8) :
    Calls Try.prog 46 #[.agg #[.int .i64 p, v], .int .i64 n, .int .i64 pt, .int .i64 q] w fun e w' => e = .returned (.agg #[.int .i64 n, .int .i64 (buildZ (betw xss pt q) (2 ^ n.toNat))]) ∧ Below w.heap.size w w' := by
  have HR := Lib.hid ha
  have HC := Lib.hid (net_con hN)
  have H8 := Lib.hid (net_pts hN)
  have HP : Hid (0 ≤ pt ∧ pt < 8) := ⟨p0, p1⟩
  have HJ : Hid (∀ k : Nat, joinS xss (inB (closedS xss (k : Int))) pt.toNat < 256) := fun k => joinS_lt (net_pts hN) _ (by omega)
  have HS : Hid (∀ k : Nat, 0 ≤ closedS xss (k : Int) ∧ closedS xss (k : Int) < 9223372036854775808) := fun k => by have := closedS_bd xss (k : Int) (net_con hN).1; omega
  obtain ⟨a, ca, rfl, _, _⟩ := ha
  have Hr : Hid (rcZ n = ((2 ^ n.toNat : Nat) : Int)) := rfl
  have hr := rcZ_bd n1 n5
  have hqu := u64_small q0 q1
  have hqm := min_small q0 q1
  clear hN
  have k0 : C2 (((w.alloc (.cells #[.int .i64 p, .slice a xss.length ca] 30)).alloc (.cells #[.int .i64 0, .int .i64 0] 27)).alloc (.cells #[.int .i64 n, .int .i64 0] 27)) w.heap.size (.int .i64 p) (.slice a xss.length ca) := ((C2.here w _ _ _).alloc _).alloc _
  have k1 : C2 (((w.alloc (.cells #[.int .i64 p, .slice a xss.length ca] 30)).alloc (.cells #[.int .i64 0, .int .i64 0] 27)).alloc (.cells #[.int .i64 n, .int .i64 0] 27)) (w.heap.size + 1) (.int .i64 0) (.int .i64 0) := by simpa using (C2.here (w.alloc (.cells #[.int .i64 p, .slice a xss.length ca] 30)) (.int .i64 0) (.int .i64 0) 27).alloc (.cells #[.int .i64 n, .int .i64 0] 27)
  have k2 : C2 (((w.alloc (.cells #[.int .i64 p, .slice a xss.length ca] 30)).alloc (.cells #[.int .i64 0, .int .i64 0] 27)).alloc (.cells #[.int .i64 n, .int .i64 0] 27)) (w.heap.size + 1 + 1) (.int .i64 n) (.int .i64 0) := by simpa using C2.here ((w.alloc (.cells #[.int .i64 p, .slice a xss.length ca] 30)).alloc (.cells #[.int .i64 0, .int .i64 0] 27)) (.int .i64 n) (.int .i64 0) 27
  go_enter Try.func46, Try.ntmps46
  go_wp2_with fail
  go_loopw [10] (fun c wr => ∃ k : Nat, (k : Int) ≤ rcZ n ∧ c = .int .i64 (k : Int) ∧ Below w.heap.size w wr ∧ C2 wr w.heap.size (.int .i64 p) (.slice a xss.length ca) ∧ C2 wr (w.heap.size + 1) (.int .i64 0) (.int .i64 0) ∧ C2 wr (w.heap.size + 1 + 1) (.int .i64 n) (.int .i64 (buildZ (betw xss pt q) k)))
    (fun c _ => (rcZ n - intOf c).toNat)
  case atStart => exact ⟨0, by omega, rfl, by go_grown, k0, k1, k2⟩
  case round =>
    clear k0 k1 k2
    obtain ⟨k, hk, rfl, hL, k0, k1, k2⟩ := hrel
    by_cases hlt : (k : Int) < rcZ n
    · have hJ := HJ.out k
      have hk32 : k < 32 := by omega
      have HK : Hid (0 ≤ (k : Int) ∧ (k : Int) < 9223372036854775808) := ⟨by omega, by omega⟩
      have hk64 := IntWalk.u64_in (k : Int) (by omega)
      have hkm : min k 64 = k := by omega
      have hbit := dig_small hJ q0
      have hbl := betw_lt xss pt q k
      have HBE : Hid (betw xss pt q k = dig (joinS xss (inB (closedS xss (k : Int))) pt.toNat) q.toNat) := rfl
      by_cases hb1 : betw xss pt q k = 1
      · have ht : (bits .and .i64 (((joinS xss (inB (closedS xss (k : Int))) pt.toNat : Nat) : Int) / 2 ^ q.toNat) 1 == 1) = true := by rw [hbit, ← HBE.out, hb1]; rfl
        have Hs := Lib.hid (build_step1 _ k hk32 hb1)
        clear hbit hb1 hbl
        go_wp2_with ((go_at_call 73; (with_reducible refine (l01Rows_any _ _ n1 n5).mono ?_); rintro e w' ⟨rfl, rfl⟩))
        go_upto_region 5 with fail
        go_cut [29] (fun s wx => s = .bool true ∧ Below w.heap.size w wx ∧ C2 wx w.heap.size (.int .i64 p) (.slice a xss.length ca) ∧ C2 wx (w.heap.size + 1) (.int .i64 0) (.int .i64 0) ∧ C2 wx (w.heap.size + 1 + 1) (.int .i64 n) (.int .i64 (buildZ (betw xss pt q) k)))
        case first =>
          go_region_with (first
            | (go_at_call 75; (with_reducible refine (l02Set_any p _ xss _ _ (HR.out.keep (by go_grown)) HC.out.1 HC.out.2.2.2 HK.out.1 HK.out.2).mono ?_); rintro e w3 ⟨rfl, hb⟩; have hL := chain (B := w.heap.size) (a := w) (by go_grown) (Nat.le_refl _) hb; replace k0 := keepAt hb (show C2 _ _ _ _ from k0); replace k1 := keepAt hb (show C2 _ _ _ _ from k1); replace k2 := keepAt hb (show C2 _ _ _ _ from k2); clear hb)
            | (go_at_call 74; (with_reducible refine (l02Joined_any p _ xss _ pt _ (HR.out.keep (by go_grown)) HC.out.1 HC.out.2.1 H8.out (HS.out k).1 (HS.out k).2 HP.out.1 HP.out.2).mono ?_); rintro e w3 ⟨rfl, hb⟩; have hL := chain (B := w.heap.size) (a := w) (by go_grown) (Nat.le_refl _) hb; replace k0 := keepAt hb (show C2 _ _ _ _ from k0); replace k1 := keepAt hb (show C2 _ _ _ _ from k1); replace k2 := keepAt hb (show C2 _ _ _ _ from k2); clear hb))
          all_goals (go_wp2_with fail)
          all_goals go_meet
          all_goals exact ⟨by first | rfl | (rw [ht]; done), by first | assumption | go_grown, k0, k1, k2⟩
        case rest =>
          clear k0 k1 k2 hL
          obtain ⟨rfl, hL, k0, k1, k2⟩ := hcut
          go_wp2_with fail
          exact ⟨⟨k + 1, by omega, by go_num, by go_grown, k0.set _ _ _ (by omega), k1.set _ _ _ (by omega), by rw [← Hs.out]; exact k2.put1 _⟩, by simp [intOf]; omega⟩
      · have hb0 : betw xss pt q k = 0 := by omega
        have ht : (bits .and .i64 (((joinS xss (inB (closedS xss (k : Int))) pt.toNat : Nat) : Int) / 2 ^ q.toNat) 1 == 1) = false := by rw [hbit, ← HBE.out, hb0]; rfl
        have Hs := Lib.hid (build_step0 _ k hb0)
        clear hbit hb1 hbl hb0
        go_wp2_with ((go_at_call 73; (with_reducible refine (l01Rows_any _ _ n1 n5).mono ?_); rintro e w' ⟨rfl, rfl⟩))
        go_upto_region 5 with fail
        go_cut [29] (fun s wx => s = .bool false ∧ Below w.heap.size w wx ∧ C2 wx w.heap.size (.int .i64 p) (.slice a xss.length ca) ∧ C2 wx (w.heap.size + 1) (.int .i64 0) (.int .i64 0) ∧ C2 wx (w.heap.size + 1 + 1) (.int .i64 n) (.int .i64 (buildZ (betw xss pt q) k)))
        case first =>
          go_region_with (first
            | (go_at_call 75; (with_reducible refine (l02Set_any p _ xss _ _ (HR.out.keep (by go_grown)) HC.out.1 HC.out.2.2.2 HK.out.1 HK.out.2).mono ?_); rintro e w3 ⟨rfl, hb⟩; have hL := chain (B := w.heap.size) (a := w) (by go_grown) (Nat.le_refl _) hb; replace k0 := keepAt hb (show C2 _ _ _ _ from k0); replace k1 := keepAt hb (show C2 _ _ _ _ from k1); replace k2 := keepAt hb (show C2 _ _ _ _ from k2); clear hb)
            | (go_at_call 74; (with_reducible refine (l02Joined_any p _ xss _ pt _ (HR.out.keep (by go_grown)) HC.out.1 HC.out.2.1 H8.out (HS.out k).1 (HS.out k).2 HP.out.1 HP.out.2).mono ?_); rintro e w3 ⟨rfl, hb⟩; have hL := chain (B := w.heap.size) (a := w) (by go_grown) (Nat.le_refl _) hb; replace k0 := keepAt hb (show C2 _ _ _ _ from k0); replace k1 := keepAt hb (show C2 _ _ _ _ from k1); replace k2 := keepAt hb (show C2 _ _ _ _ from k2); clear hb))
          all_goals (go_wp2_with fail)
          all_goals go_meet
          all_goals exact ⟨by first | rfl | (rw [ht]; done), by first | assumption | go_grown, k0, k1, k2⟩
        case rest =>
          clear k0 k1 k2 hL
          obtain ⟨rfl, hL, k0, k1, k2⟩ := hcut
          go_wp2_with fail
          exact ⟨⟨k + 1, by omega, by go_num, hL, k0, k1, by rw [Hs.out]; exact k2⟩, by simp [intOf]; omega⟩
    · have Hk : Hid ((k : Nat) = 2 ^ n.toNat) := by have := Hr.out; unfold Hid; omega
      rw [Hk.out] at k2
      go_wp2_with ((go_at_call 73; (with_reducible refine (l01Rows_any _ _ n1 n5).mono ?_); rintro e w' ⟨rfl, rfl⟩))
      refine bodyPost_ret (v := .agg #[.int .i64 n, .int .i64 (buildZ (betw xss pt q) (2 ^ n.toNat))]) (by simp [results, Try.results46, go_sem, *]) rfl ?_
      exact ⟨rfl, by go_grown⟩

end Go.Proofs.Ytlihnknlpbokiab
