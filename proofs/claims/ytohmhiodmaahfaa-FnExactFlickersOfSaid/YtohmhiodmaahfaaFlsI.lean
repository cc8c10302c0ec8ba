/- The flickers of a formula, in order: the program's. -/
import Derived.Test.YtohmhiodmaahfaaFlsM
namespace Go.Proofs.Ytohmhiodmaahfaa
open Go.RowKit
set_option linter.unusedVariables false

theorem flickAt_any {row i : Nat} (hr : row < 32) (hi : i < 5) (hd : digZ (row : Int) (i : Int) = 0) {t : Fm} {B : Nat} {va : Option Addr} {vc : Nat} {bs : List Nat} (w : World) (hw : wfF t) (hz : (txtF t).length ≤ 1048576) (hh : Hold w B (.slice va t.members.length vc) t.members bs) :
    Calls Try.prog 58 #[.agg #[.int .u8 t.sign, .slice va t.members.length vc, .int .i64 (lowR row i), .int .i64 (highR row i)]] w fun e w' => e = .returned (.tuple #[.int .i64 (flv t row i).1, .bool (flv t row i).2]) ∧ Below w.heap.size w w' := by
  have h0 : (0 : Int) ≤ row := by omega
  have h1 : (row : Int) ≤ 31 := by omega
  have i0 : (0 : Int) ≤ i := by omega
  have i1 : (i : Int) < 5 := by omega
  have hb := lowR_bd h0 h1 i0 i1
  rw [flv_zero hd]
  exact flickerOf_of _ _ _ _ _ _ _ _ (b2i_bit _) (b2i_bit _) (b2i_bit _) (b2i_bit _) w
    (fun wx h => inLow_any _ _ hb.1 hb.2.1 hb.2.2.1 hb.2.2.2 wx hw hz (hh.keep h))
    (fun wx h => inHigh_any _ _ hb.1 hb.2.1 hb.2.2.1 hb.2.2.2 wx hw hz (hh.keep h))
    (fun wx h => inGapM _ _ h0 h1 i0 i1 wx hw hz (hh.keep h))
    (fun wx h => inBridgeM _ _ h0 h1 i0 i1 wx hw hz (hh.keep h))

set_option maxRecDepth 100000 in
set_option maxHeartbeats 4000000 in
theorem flickersOf_any {t : Fm} {B : Nat} {va : Option Addr} {vc : Nat} {bs : List Nat} (n : Int) (w : World) (hw : wfF t) (hz : (txtF t).length ≤ 1048576) (hh : Hold w B (.slice va t.members.length vc) t.members bs) (n1 : 1 ≤ n) (n5 : n ≤ 5) :
    Calls Try.prog 36 #[.agg #[.int .u8 t.sign, .slice va t.members.length vc], .int .i64 n] w fun e w' => ∃ sa sc, e = .returned (.slice sa (flTo t n.toNat (2 ^ n.toNat)).length sc) ∧ Own2 w' w.heap.size w'.heap.size (.slice sa (flTo t n.toNat (2 ^ n.toNat)).length sc) (flTo t n.toNat (2 ^ n.toNat)) ∧ Below w.heap.size w w' := by
  obtain ⟨i0, hi0, hz0, hz1, hz2⟩ := info_parts infoRow
  obtain ⟨N, rfl⟩ : ∃ N : Nat, n = (N : Int) := ⟨n.toNat, by omega⟩
  simp only [Int.toNat_natCast]
  obtain ⟨M, hM⟩ : ∃ M, 2 ^ N = M := ⟨_, rfl⟩
  have hM32 : M ≤ 32 := by rw [← hM]; exact Nat.pow_le_pow_right (n := 2) (by decide) (show N ≤ 5 by omega)
  have HPC : Hid (∀ w, Calls Try.prog 42 #[.int .i64 (N : Int)] w fun e w' => e = .returned (.int .i64 (M : Int)) ∧ w = w') := fun w => by
    have := rowCount_any (N : Int) w n1 n5; unfold rcZ at this; rw [Int.toNat_natCast, hM] at this; exact this
  have HC := Lib.hid (fun (k j : Nat) (hk : k < M) (hj : j < N) (wx : World) => changeIn_any t.sign va t.members.length vc (row := (k : Int)) (input := (j : Int)) wx (by omega) (by omega) (by omega) (by omega))
  have HF := Lib.hid (fun (k j : Nat) (hk : k < M) (hj : j < N) (hd : digZ (k : Int) (j : Int) = 0) (wx : World) (h : Below w.heap.size w wx) => flickAt_any (row := k) (i := j) (by omega) (by omega) hd wx hw hz (hh.keep h))
  have HL1 := Lib.hid (fun k => flTo_len t N (by omega) k)
  have HS1 := Lib.hid (fun k => flTo_succ t N k)
  have H00 : Hid (flTo t N 0 = []) := rfl
  have HR0 : Hid (∀ k, flRow t k 0 = []) := fun k => rfl
  have k0 := C2.here w (.int .u8 t.sign) (.slice va t.members.length vc) 46
  have hL0 : Below w.heap.size w (w.alloc (.cells #[.int .u8 t.sign, .slice va t.members.length vc] 46)) := by go_grown
  have hO0 := Lib.hid (own2Nil (w.alloc (.cells #[.int .u8 t.sign, .slice va t.members.length vc] 46)) (w.heap.size + 1) (w.alloc (.cells #[.int .u8 t.sign, .slice va t.members.length vc] 46)).heap.size)
  have HN5 : Hid (N ≤ 5) := by unfold Hid; omega
  have HMM := Lib.hid hM
  clear hh hz hw hM n1
  generalize t.sign = sg at *
  generalize t.members.length = tn at *
  go_enter Try.func36, Try.ntmps36
  go_wp2_with ((go_at_call 42; (with_reducible refine (HPC.out _).mono ?_); rintro e w' ⟨rfl, rfl⟩))
  go_loopw [5, 12] (fun u c wr => ∃ k : Nat, k ≤ M ∧ c = .int .i64 (k : Int) ∧ Below w.heap.size w wr ∧ C2 wr w.heap.size (.int .u8 sg) (.slice va tn vc) ∧ Hid (Own2 wr (w.heap.size + 1) wr.heap.size u (flTo t N k))) (fun _ c _ => M - (intOf c).toNat)
  case atStart => exact ⟨0, Nat.zero_le _, rfl, hL0, k0, hO0⟩
  case round =>
    clear hL0 k0 hO0
    obtain ⟨k, hk, rfl, hL, k0, hO⟩ := hrel
    by_cases hkl : k < M
    · have hk1 : (k : Int) < (M : Int) := by omega
      have HCk := Lib.hid (fun j hj => HC.out k j hkl hj)
      have HFk := Lib.hid (fun j hj => HF.out k j hkl hj)
      have HTk := HL1.out k
      have hk31 : (k : Int) < 9223372036854775808 := by omega
      have hk0 : (0 : Int) ≤ (k : Int) := by omega
      go_wp2_with fail
      go_loopw [5, 16] (fun u c wy => ∃ j : Nat, j ≤ N ∧ c = .int .i64 (j : Int) ∧ Below w.heap.size w wy ∧ C2 wy w.heap.size (.int .u8 sg) (.slice va tn vc) ∧ Hid (Own2 wy (w.heap.size + 1) wy.heap.size u (flTo t N k ++ flRow t k j))) (fun _ c _ => N - (intOf c).toNat)
      case atStart => exact ⟨0, Nat.zero_le _, rfl, hL, k0, by rw [HR0.out, List.append_nil]; exact hO⟩
      case round =>
        clear hL k0 hO
        obtain ⟨j, hj, rfl, hL, k0, hO⟩ := hrel
        by_cases hjl : j < N
        · have hj1 : (j : Int) < (N : Int) := by omega
          have hj0 : (0 : Int) ≤ (j : Int) := by omega
          have hj62 : (j : Int) ≤ 62 := by omega
          have HCj := Lib.hid (HCk.out j hjl)
          have HFj := Lib.hid (HFk.out j hjl)
          have Hl : (flTo t N k ++ flRow t k j).length ≤ 400 := by rw [List.length_append]; have := flRow_len t k j; omega
          have HD := Lib.hid (fun w => digitAt_any (k : Int) (j : Int) w hk0 hk31 hj0 hj62)
          rcases (show digZ (k : Int) (j : Int) = 1 ∨ digZ (k : Int) (j : Int) = 0 by have := digZ_bd (k : Int) (j : Int); omega) with hd | hd
          · have HN : Hid (flTo t N k ++ flRow t k (j + 1) = flTo t N k ++ flRow t k j) := by rw [Hid, flRow_miss (by rw [flv_one hd])]
            rw [hd] at HD
            clear hd HCj HFj
            generalize flTo t N k ++ flRow t k j = L at *
            go_wp2_with ((go_at_call 57; (with_reducible refine (HD.out _).mono ?_); rintro e w' ⟨rfl, rfl⟩))
            exact ⟨⟨j + 1, by omega, by go_num, hL, k0, by rw [HN.out]; exact hO⟩, by simp [intOf]; omega⟩
          · replace HFj := Lib.hid (HFj.out hd)
            rw [hd] at HD
            clear hd
            cases hq : (flv t k j).2
            · have HN : Hid (flTo t N k ++ flRow t k (j + 1) = flTo t N k ++ flRow t k j) := by rw [Hid, flRow_miss hq]
              rw [hq] at HFj
              clear hq
              generalize flTo t N k ++ flRow t k j = L at *
              generalize (flv t k j).1 = kd at *
              go_wp2_with (first | (go_at_call 57; (with_reducible refine (HD.out _).mono ?_); rintro e w' ⟨rfl, rfl⟩) | (go_at_call 46; (with_reducible refine (HCj.out _).mono ?_); rintro e w2 ⟨rfl, hb⟩; replace hL := chain (B := w.heap.size) (a := w) hL (Nat.le_refl _) hb; replace k0 := keepAt hb k0; replace hO := Lib.hid (hO.out.later hb); clear hb) | (go_at_call 58; (with_reducible refine (HFj.out _ hL).mono ?_); rintro e w3 ⟨rfl, hb⟩; replace hL := chain (B := w.heap.size) (a := w) hL (Nat.le_refl _) hb; replace k0 := keepAt hb k0; replace hO := Lib.hid (hO.out.later hb); clear hb))
              exact ⟨⟨j + 1, by omega, by go_num, hL, k0, by rw [HN.out]; exact hO⟩, by simp [intOf]; omega⟩
            · have HN : Hid (flTo t N k ++ flRow t k (j + 1) = (flTo t N k ++ flRow t k j) ++ [[(k : Int), (j : Int), (flv t k j).1]]) := by rw [Hid, flRow_hit hq, List.append_assoc]
              rw [hq] at HFj
              clear hq
              generalize flTo t N k ++ flRow t k j = L at *
              generalize (flv t k j).1 = kd at *
              go_wp2_with ((go_at_call 57; (with_reducible refine (HD.out _).mono ?_); rintro e w' ⟨rfl, rfl⟩))
              refine (HCj.out _).mono ?_
              rintro e w2 ⟨rfl, hb⟩
              replace hL := chain (B := w.heap.size) (a := w) hL (Nat.le_refl _) hb
              replace k0 := keepAt hb k0
              replace hO := Lib.hid (hO.out.later hb)
              clear hb
              go_wp2_with fail
              refine (HFj.out _ hL).mono ?_
              rintro e w3 ⟨rfl, hb⟩
              replace hL := chain (B := w.heap.size) (a := w) hL (Nat.le_refl _) hb
              replace k0 := keepAt hb k0
              replace hO := Lib.hid (hO.out.later hb)
              clear hb
              have hkb := k0.2.2.2.2
              have hfrom := Lib.hid hO.out.from
              have hB1 : Below w3.heap.size w3 (w3.alloc (.cells #[.int .i64 (k : Int), .int .i64 (j : Int), .int .i64 kd] 2)) := (Below.refl _ _).alloc (Nat.le_refl _) _
              have HB1 := Lib.hid hB1
              have HRows := Lib.hid (fun o => hO.out.asRows HB1.out o)
              have HTwo := Lib.hid (ownsThree w3 (k : Int) (j : Int) kd w3.heap.size (Nat.le_refl _))
              clear hB1
              go_wp2_with (at_builtin; refine wpList_append_own_at _ rfl _ _ 25 rfl (w.heap.size + 1) 57 i0 (.slice none 0 0) 1 24 Try.underlying25 hi0 hz0 hz1 hz2 rfl (by decide) _ L.length ((List.range L.length).map (Classical.choose hO.out)) rfl (HRows.out _) ⟨w3.heap.size + 1, 0, none⟩ 1 1 [.slice (some ⟨w3.heap.size, 0, none⟩) 3 3] rfl rfl (by have h := cell_one_new (w3.alloc (.cells #[.int .i64 (k : Int), .int .i64 (j : Int), .int .i64 kd] 2)) (.slice (some ⟨w3.heap.size, 0, none⟩) 3 3) 57; rw [World.size_alloc] at h; exact h) (by simp [Value.oneCell']) (by unfold maxLen; omega) (by omega) (by simp; omega) ?_; intro v' w4 hown' hgrow hnil hat)
              have HO3 := Lib.hid (Own2.more _ hO.out (by omega) HB1.out HTwo.out hown' hgrow hat)
              exact ⟨⟨j + 1, by omega, by go_num, ((hL.alloc (by omega) _).alloc (by simp; omega) _).grown hgrow (by simp; omega) (fun q e => Nat.le_of_succ_le (hfrom.out q e)), ((k0.alloc _).alloc _).grown hgrow (fun e => absurd (hfrom.out _ e) (by omega)), by rw [HN.out]; exact HO3⟩, by simp [intOf]; omega⟩
        · have e : j = N := by omega
          have hjn : ¬ (j : Int) < (N : Int) := by omega
          rw [e, ← HS1.out] at hO
          clear e
          go_wp2_with fail
          exact ⟨⟨k + 1, by omega, by go_num, hL, k0, hO⟩, by simp [intOf]; omega⟩
    · have e : k = M := by omega
      have hkn : ¬ (k : Int) < (M : Int) := by omega
      rw [e] at hO
      clear e
      obtain ⟨sa, sc, rfl, _⟩ := hO.out.reads
      go_wp2_with fail
      go_ret
      rw [HMM.out]
      exact ⟨sa, sc, rfl, hO.out.mono (Nat.le_succ _) (Nat.le_refl _), hL⟩

end Go.Proofs.Ytohmhiodmaahfaa
