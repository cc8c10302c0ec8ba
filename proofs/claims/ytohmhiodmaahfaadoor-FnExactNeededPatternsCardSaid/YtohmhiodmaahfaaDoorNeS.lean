/- NeededPatterns: the model's contract. -/
import Derived.Test.YtohmhiodmaahfaaDoorNee
namespace Go.Proofs.YtohmhiodmaahfaaDoor
open Go.RowKit
set_option linter.unusedVariables false

set_option maxRecDepth 100000 in
set_option maxHeartbeats 8000000 in
theorem sNeededPatterns_any (n v : Int) (w : World) :
    Calls Tryd.prog 24 #[.agg #[.int .i64 n, .int .i64 v]] w fun e w' => ∃ u, e = .returned (.tuple #[u, .int .i64 (resNeededPatterns_1 n v)]) ∧ RdS w' u (resNeededPatterns_0 n v) ∧ Below w.heap.size w w' := by
  unfold resNeededPatterns_0 resNeededPatterns_1
  have k0 := C2.here w (.int .i64 n) (.int .i64 v) 29
  cases ht : isTab n v
  · rw [nee_out ht]
    have HT := Lib.hid (fun w => l01Is_b n v w ht)
    clear ht
    go_enter Tryd.func24, Tryd.ntmps24
    go_wp2_with ((go_at_call 35; (with_reducible refine (HT.out _).mono ?_); rintro e w' ⟨rfl, hb⟩; have hL := chain (B := w.heap.size) (a := w) (by go_grown) (Nat.le_refl _) hb; (first | replace k0 := keepAt hb k0 | replace k0 := keepAt hb (C2.alloc k0 _)); clear hb))
    go_ret2
    exact ⟨_, rfl, (ownsSNil _ 0).rd, hL⟩
  · rw [nee_in ht]
    obtain ⟨i0, hi0, hz0, hz1, hz2⟩ := info_parts infoStr
    have HT := Lib.hid (fun w => l01Is_b n v w ht)
    obtain ⟨n1, n5, v0, v1⟩ := tab_bd ht
    have HP := Lib.hid (fun w => l08Primes_any n v w n1 n5 v0 v1)
    obtain ⟨N, rfl⟩ : ∃ N : Nat, n = (N : Int) := ⟨n.toNat, by omega⟩
    simp only [Int.toNat_natCast] at HP ⊢
    have hlen := primesL_len v (n := N) (by omega)
    have HMem : Hid (∀ k, k < (primesL v N).length → ((primesL v N).getD k ByteArray.empty).size ≤ 5 ∧ allIn ((primesL v N).getD k ByteArray.empty) [45, 48, 49] = true) := fun k hk => by
      rw [List.getD_eq_getElem?_getD, List.getElem?_eq_getElem hk]
      have := primesL_mem _ (List.getElem_mem hk)
      exact ⟨by simp only [Option.getD_some]; omega, this.2⟩
    have hM32 : 2 ^ N ≤ 32 := Nat.pow_le_pow_right (n := 2) (by decide) (show N ≤ 5 by omega)
    have HPC : Hid (∀ w, Calls Tryd.prog 43 #[.int .i64 (N : Int)] w fun e w' => e = .returned (.int .i64 ((2 ^ N : Nat) : Int)) ∧ w = w') := fun w => by
      have := l01Rows_any (N : Int) w n1 n5; unfold rcZ at this; rw [Int.toNat_natCast] at this; exact this
    clear ht n1 n5 v0 v1
    generalize 2 ^ N = M at *
    generalize primesL v N = L at *
    have HCv : Hid (∀ (k r : Nat) (w : World), k < L.length → r < 32 → Calls Tryd.prog 44 #[.string (L.getD k ByteArray.empty), .int .i64 (r : Int)] w fun e w' => e = .returned (.bool (covF (sgn (L.getD k ByteArray.empty)) (r : Int))) ∧ w = w') := fun k r w hk hr => l08Covers_any _ (HMem.out k hk).1 (HMem.out k hk).2 (r : Int) w (by omega) (by omega)
    have HNS := Lib.hid (fun f r => needTo_succ L f r)
    have HCy := Lib.hid (fun r k h => cntTo_yes (L := L) (r := r) (k := k) h)
    have HCn := Lib.hid (fun r k h => cntTo_no (L := L) (r := r) (k := k) h)
    have HCl := Lib.hid (fun r k => cntTo_le L r k)
    have HHit := Lib.hid (fun k (h : k < L.length) => neededTo_hit (L := L) (M := M) h)
    have HMiss := Lib.hid (fun k (h : k < L.length) => neededTo_miss (L := L) (M := M) h)
    have HAll := Lib.hid (neededTo_all L M)
    have HLen := Lib.hid (fun k => neededTo_len L M k)
    have H00 := Lib.hid (neededTo_zero L M)
    have HMade := Lib.hid (fun w : World => (World.ownsRow_made (base := w.heap.size) (e := 9) (size := 1) w #[] 0 (by simp) (by simp) rfl : OwnsS (w.alloc (.cells #[] 9)) w.heap.size (.slice (some ⟨w.heap.size, 0, none⟩) 0 0) []))
    clear HMem
    go_enter Tryd.func24, Tryd.ntmps24
    go_wp2_with ((go_at_call 35; (with_reducible refine (HT.out _).mono ?_); rintro e w' ⟨rfl, hb⟩; have hL := chain (B := w.heap.size) (a := w) (by go_grown) (Nat.le_refl _) hb; (first | replace k0 := keepAt hb k0 | replace k0 := keepAt hb (C2.alloc k0 _)); clear hb))
    refine (HP.out _).mono ?_
    rintro e wa ⟨u, rfl, hO, hb⟩
    have hLa := chain (B := w.heap.size) (a := w) hL (Nat.le_refl _) hb
    replace k0 := keepAt hb k0
    obtain ⟨ua, uc, rfl, hcs⟩ := hO.rd
    have HCS := Lib.hid hcs
    clear hb hO hcs HP HT hL
    have hza := hLa.size
    have hL1 : Below w.heap.size w (wa.alloc (.cells #[] 9)) := hLa.alloc (by omega) _
    have hLa1 : Below wa.heap.size wa (wa.alloc (.cells #[] 9)) := (Below.refl _ _).alloc (Nat.le_refl _) _
    have k1 := k0.alloc (.cells #[] 9)
    have HO1 : Hid (OwnsS (wa.alloc (.cells #[] 9)) wa.heap.size (.slice (some ⟨wa.heap.size, 0, none⟩) 0 0) (neededTo L M 0)) := by rw [H00.out]; exact HMade.out wa
    have hkz := k0.2.2.2.2
    clear k0 HMade H00 hLa
    generalize hm : L.length = m at *
    clear hm
    go_wp2_with fail
    go_loopw [5, 6] (fun q c wr => ∃ k : Nat, k ≤ m ∧ c = .int .i64 (k : Int) ∧ Below w.heap.size w wr ∧ Hid (Below wa.heap.size wa wr) ∧ C2 wr w.heap.size (.int .i64 (N : Int)) (.int .i64 v) ∧ Hid (OwnsS wr wa.heap.size q (neededTo L M k))) (fun _ c _ => m - (intOf c).toNat)
    case atStart => exact ⟨0, Nat.zero_le _, rfl, hL1, hLa1, k1, HO1⟩
    case round =>
      clear hL1 hLa1 k1 HO1
      obtain ⟨k, hk, rfl, hL, hLa, k0, hO⟩ := hrel
      by_cases hkl : k < m
      · obtain ⟨g, rfl, hc0⟩ := HCS.out k hkl
        have hk1 : (k : Int) < (m : Int) := by omega
        have hk0 : (0 : Int) ≤ (k : Int) := by omega
        have HH := Lib.hid (HHit.out k hkl)
        have HM := Lib.hid (HMiss.out k hkl)
        have hlenk := HLen.out k
        have hca := cell_later hLa.out hc0
        have HCk : Hid (∀ (r : Nat) (w : World), r < 32 → Calls Tryd.prog 44 #[.string (L.getD k ByteArray.empty), .int .i64 (r : Int)] w fun e w' => e = .returned (.bool (covF (sgn (L.getD k ByteArray.empty)) (r : Int))) ∧ w = w') := fun r w hr => HCv.out k r w hkl hr
        have HCS2 : Hid (∀ j, j < m → wr.cell? ⟨g, j, none⟩ = some (.string (L.getD j ByteArray.empty))) := fun j hj => by
          obtain ⟨g2, e, hc⟩ := HCS.out j hj
          injection e with e
          injection e with e
          subst e
          exact cell_later hLa.out hc
        have HNk := Lib.hid (fun r => HNS.out (sgn (L.getD k ByteArray.empty)) r)
        have HN0 : Hid (needTo L (sgn (L.getD k ByteArray.empty)) 0 = false) := rfl
        clear HHit HMiss HLen HCS hc0 HNS
        obtain ⟨s, hs⟩ : ∃ s, L.getD k ByteArray.empty = s := ⟨_, rfl⟩
        rw [hs] at HH HM hca HCk HNk HN0
        clear hs
        generalize hwx : wr = wx at *
        clear hwx
        go_wp2_with fail
        go_loopw [7, 8] (fun b c wy => ∃ r : Nat, r ≤ M ∧ c = .int .i64 (r : Int) ∧ b = .bool (needTo L (sgn s) r) ∧ wx = wy) (fun _ c _ => M - (intOf c).toNat)
        case atStart => exact ⟨0, Nat.zero_le _, rfl, by rw [HN0.out], rfl⟩
        case round =>
          obtain ⟨r, hr, rfl, rfl, rfl⟩ := hrel
          by_cases hrl : r < M
          · have hr1 : (r : Int) < (M : Int) := by omega
            have HCr : Hid (∀ (j : Nat) (w : World), j < m → Calls Tryd.prog 44 #[.string (L.getD j ByteArray.empty), .int .i64 (r : Int)] w fun e w' => e = .returned (.bool (covF (sgn (L.getD j ByteArray.empty)) (r : Int))) ∧ w = w') := fun j w hj => HCv.out j r w hj (by omega)
            have HCkr := Lib.hid (fun w => HCk.out r w (by omega))
            have HNr := Lib.hid (HNk.out r)
            have HCyr := Lib.hid (fun j h => HCy.out r j h)
            have HCnr := Lib.hid (fun j h => HCn.out r j h)
            have HClr := Lib.hid (fun j => HCl.out r j)
            have HC0 : Hid (cntTo L r 0 = 0) := rfl
            go_wp2_with ((go_at_call 43; (with_reducible refine (HPC.out _).mono ?_); rintro e w' ⟨rfl, rfl⟩))
            go_loopw [9, 10] (fun q c wz => ∃ j : Nat, j ≤ m ∧ c = .int .i64 (j : Int) ∧ q = .int .i64 ((cntTo L r j : Nat) : Int) ∧ wx = wz) (fun _ c _ => m - (intOf c).toNat)
            case atStart => exact ⟨0, Nat.zero_le _, rfl, by rw [HC0.out]; rfl, rfl⟩
            case round =>
              obtain ⟨j, hj, rfl, rfl, rfl⟩ := hrel
              by_cases hjl : j < m
              · have hj1 : (j : Int) < (m : Int) := by omega
                have hj0 : (0 : Int) ≤ (j : Int) := by omega
                have hcj := HCS2.out j hjl
                have HCj := Lib.hid (fun w => HCr.out j w hjl)
                have hcl := HClr.out j
                cases hcv : covF (sgn (L.getD j ByteArray.empty)) (r : Int)
                · have HX := Lib.hid (HCnr.out j hcv)
                  rw [hcv] at HCj
                  clear hcv
                  generalize cntTo L r j = C at *
                  generalize L.getD j ByteArray.empty = sj at *
                  go_wp2_with ((go_at_call 44; (with_reducible refine (HCj.out _).mono ?_); rintro e w' ⟨rfl, rfl⟩))
                  exact ⟨⟨j + 1, by omega, by go_num, by rw [HX.out], by first | trivial | rfl⟩, by simp [intOf]; omega⟩
                · have HX := Lib.hid (HCyr.out j hcv)
                  rw [hcv] at HCj
                  clear hcv
                  generalize cntTo L r j = C at *
                  generalize L.getD j ByteArray.empty = sj at *
                  go_wp2_with ((go_at_call 44; (with_reducible refine (HCj.out _).mono ?_); rintro e w' ⟨rfl, rfl⟩))
                  exact ⟨⟨j + 1, by omega, by go_num, by rw [HX.out]; go_num, by first | trivial | rfl⟩, by simp [intOf]; omega⟩
              · have e : j = m := by omega
                have hjn : ¬ (j : Int) < (m : Int) := by omega
                rw [← e] at HNr
                clear e
                generalize hcc : cntTo L r j = C at *
                clear hcc
                cases hb : needTo L (sgn s) r
                · by_cases hC1 : C = 1
                  · have HX : Hid (needTo L (sgn s) (r + 1) = covF (sgn s) (r : Int)) := by rw [Hid, HNr.out, hb, decide_eq_true hC1]; rfl
                    have hq : ((C : Int) == 1) = true := by rw [hC1]; rfl
                    clear hb hC1 HNr
                    generalize covF (sgn s) (r : Int) = cv at *
                    go_wp2_with ((go_at_call 44; (with_reducible refine (HCkr.out _).mono ?_); rintro e w' ⟨rfl, rfl⟩))
                    exact ⟨⟨r + 1, by omega, by go_num, by rw [HX.out], by first | trivial | rfl⟩, by simp [intOf]; omega⟩
                  · have HX : Hid (needTo L (sgn s) (r + 1) = false) := by rw [Hid, HNr.out, hb, decide_eq_false hC1]; rfl
                    have hq : ((C : Int) == 1) = false := by rw [beq_eq_false_iff_ne]; omega
                    clear hb hC1 HNr
                    go_wp2_with fail
                    exact ⟨⟨r + 1, by omega, by go_num, by rw [HX.out], by first | trivial | rfl⟩, by simp [intOf]; omega⟩
                · have HX : Hid (needTo L (sgn s) (r + 1) = true) := by rw [Hid, HNr.out, hb]; rfl
                  clear hb HNr
                  go_wp2_with fail
                  exact ⟨⟨r + 1, by omega, by go_num, by rw [HX.out], by first | trivial | rfl⟩, by simp [intOf]; omega⟩
          · have e : r = M := by omega
            have hrn : ¬ (r : Int) < (M : Int) := by omega
            cases hb : needTo L (sgn s) r
            · have HN := Lib.hid (HM.out (by rw [← e]; exact hb))
              clear hb HH HM e
              go_wp2_with ((go_at_call 43; (with_reducible refine (HPC.out _).mono ?_); rintro e w' ⟨rfl, rfl⟩))
              exact ⟨⟨k + 1, by omega, by go_num, hL, hLa, k0, by rw [HN.out]; exact hO⟩, by simp [intOf]; omega⟩
            · have HN := Lib.hid (HH.out (by rw [← e]; exact hb))
              have hz4 := hL.size
              have hz5 := hLa.out.size
              have hfrom := Lib.hid hO.out.lt
              have HOa := Lib.hid (fun o => World.ownsRow.alloc hO.out o)
              clear hb HH HM e
              generalize neededTo L M k = Q at *
              go_wp2_with (first | (go_at_call 43; (with_reducible refine (HPC.out _).mono ?_); rintro e w' ⟨rfl, rfl⟩) | (at_builtin; refine wpList_append_own _ rfl _ _ 38 rfl wa.heap.size 9 i0 (.string ByteArray.empty) 1 16 Tryd.underlying38 hi0 hz0 hz1 hz2 rfl (by decide) _ Q.length (Q.map Value.string) rfl (HOa.out _) ⟨wx.heap.size, 0, none⟩ 1 1 [.string s] rfl rfl (cell_one_new _ _ _) (by simp [Value.oneCell']) (by unfold maxLen; omega) (by omega) (by simp; omega) ?_; intro v' w5 hown' hgrow hnil))
              exact ⟨⟨k + 1, by omega, by go_num, (hL.alloc (by omega) _).grown hgrow (by simp; omega) (fun b e => by have := (hfrom.out b e).1; omega), (hLa.out.alloc hz5 _).grown hgrow (by simp; omega) (fun b e => (hfrom.out b e).1), (k0.alloc _).grown hgrow (fun e => absurd (hfrom.out _ e).1 (by omega)), by rw [HN.out]; exact OwnsS.snoc hown'⟩, by simp [intOf]; omega⟩
      · have e : k = m := by omega
        have hkn : ¬ (k : Int) < (m : Int) := by omega
        rw [e, HAll.out] at hO
        clear e
        obtain ⟨oa, oc, rfl, _⟩ := id hO.out.rd
        have HR := Lib.hid hO.out.rd
        go_wp2_with fail
        go_ret2
        exact ⟨_, rfl, HR.out, hL⟩

end Go.Proofs.YtohmhiodmaahfaaDoor
