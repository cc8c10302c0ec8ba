/- The prime patterns: the model's l08Primes. -/
import Derived.Test.YtohmhiodmaahfaaDoorPrS
import Derived.Test.YtohmhiodmaahfaaDoorPrG
namespace Go.Proofs.YtohmhiodmaahfaaDoor
open Go.RowKit
set_option linter.unusedVariables false

/-- implied, and none of the first i signs can be widened -/
def gT (v : Int) (f : Nat → Int) (M i : Nat) : Bool := impF v f M && (List.range i).all fun j => decide (f j = 45) || !impF v (wide f j) M
theorem gT_zero (v : Int) (f : Nat → Int) (M : Nat) : gT v f M 0 = impF v f M := by unfold gT; simp
theorem gT_succ (v : Int) (f : Nat → Int) (M i : Nat) : gT v f M (i + 1) = (gT v f M i && (decide (f i = 45) || !impF v (wide f i) M)) := by
  unfold gT; rw [List.range_succ, List.all_append]; simp [Bool.and_assoc]
theorem gT_five (v : Int) (f : Nat → Int) (M : Nat) : primF v f M = gT v f M 5 := rfl
theorem gT_false {v : Int} {f : Nat → Int} {M i j : Nat} (h : gT v f M i = false) (hij : i ≤ j) : gT v f M j = false := by
  induction j with
  | zero => have : i = 0 := by omega
            subst this; exact h
  | succ j ih =>
    by_cases e : i = j + 1
    · subst e; exact h
    · rw [gT_succ, ih (by omega)]; rfl
theorem gT_rest {v : Int} {s : ByteArray} {M : Nat} (hs : s.size ≤ 5) : gT v (sgn s) M s.size = gT v (sgn s) M 5 := by
  have key : ∀ d, gT v (sgn s) M s.size = gT v (sgn s) M (s.size + d) := by
    intro d
    induction d with
    | zero => rfl
    | succ d ih =>
      rw [← Nat.add_assoc, gT_succ, ← ih]
      have : sgn s (s.size + d) = 45 := by unfold sgn; rw [if_neg (by omega)]
      rw [this]; simp
  have := key (5 - s.size)
  rwa [show s.size + (5 - s.size) = 5 by omega] at this

set_option maxRecDepth 100000 in
set_option maxHeartbeats 8000000 in
theorem l08Primes_any (n v : Int) (w : World) (n1 : 1 ≤ n) (n5 : n ≤ 5) (v0 : 0 ≤ v) (v1 : v < 9223372036854775808) :
    Calls Tryd.prog 48 #[.agg #[.int .i64 n, .int .i64 v]] w fun e w' => ∃ q, e = .returned q ∧ OwnsS w' w.heap.size q (primesL v n.toNat) ∧ Below w.heap.size w w' := by
  obtain ⟨i0, hi0, hz0, hz1, hz2⟩ := info_parts infoStr
  have HAllC := Lib.hid (fun w => l08All_any n w n1 n5)
  have HIm := Lib.hid (fun (s : ByteArray) (hs : s.size ≤ 5) (hp : allIn s [45, 48, 49] = true) (w : World) => l08Implied_gr n v s hs hp w n1 n5 v0 v1)
  obtain ⟨N, rfl⟩ : ∃ N : Nat, n = (N : Int) := ⟨n.toNat, by omega⟩
  simp only [Int.toNat_natCast] at HAllC HIm ⊢
  have hN5 : N ≤ 5 := by omega
  have hLN : (allP N).length ≤ 243 := by rw [allP_len]; exact pow3 hN5
  have HMem : Hid (∀ k, k < (allP N).length → ((allP N).getD k ByteArray.empty).size = N ∧ allIn ((allP N).getD k ByteArray.empty) [45, 48, 49] = true) := fun k hk => by
    rw [List.getD_eq_getElem?_getD, List.getElem?_eq_getElem hk]
    exact allP_mem N _ (List.getElem_mem hk)
  have HHit := Lib.hid (fun k (h : k < (allP N).length) => primesTo_hit (v := v) (n := N) h)
  have HMiss := Lib.hid (fun k (h : k < (allP N).length) => primesTo_miss (v := v) (n := N) h)
  have HAll := Lib.hid (primesTo_all v N)
  have HLen := Lib.hid (fun k => primesTo_len v N k)
  have H00 : Hid (primesTo v N 0 = []) := by unfold Hid primesTo; simp
  have HMade := Lib.hid (fun w : World => (World.ownsRow_made (base := w.heap.size) (e := 9) (size := 1) w #[] 0 (by simp) (by simp) rfl : OwnsS (w.alloc (.cells #[] 9)) w.heap.size (.slice (some ⟨w.heap.size, 0, none⟩) 0 0) []))
  have k0 := C2.here w (.int .i64 (N : Int)) (.int .i64 v) 29
  clear n1 n5 v0 v1
  go_enter Tryd.func48, Tryd.ntmps48
  go_wp2_with fail
  refine (HAllC.out _).mono ?_
  rintro e wa ⟨u, rfl, hO, hb⟩
  have hL := chain (B := w.heap.size) (a := w) (by go_grown) (Nat.le_refl _) hb
  replace k0 := keepAt hb k0
  obtain ⟨ua, uc, rfl, hcs⟩ := hO.rd
  have HCS := Lib.hid hcs
  clear hb hO hcs HAllC
  have hza := k0.2.2.2.2
  have hL1 : Below w.heap.size w (wa.alloc (.cells #[] 9)) := hL.alloc (by omega) _
  have hLa1 : Below wa.heap.size wa (wa.alloc (.cells #[] 9)) := (Below.refl _ _).alloc (Nat.le_refl _) _
  have k1 := k0.alloc (.cells #[] 9)
  have HO1 : Hid (OwnsS (wa.alloc (.cells #[] 9)) wa.heap.size (.slice (some ⟨wa.heap.size, 0, none⟩) 0 0) (primesTo v N 0)) := by rw [H00.out]; exact HMade.out wa
  clear k0 hL HMade H00
  generalize hm : (allP N).length = m at *
  clear hm
  go_wp2_with fail
  go_loopw [4, 5] (fun q c wr => ∃ k : Nat, k ≤ m ∧ c = .int .i64 (k : Int) ∧ Below w.heap.size w wr ∧ Hid (Below wa.heap.size wa wr) ∧ C2 wr w.heap.size (.int .i64 (N : Int)) (.int .i64 v) ∧ Hid (OwnsS wr wa.heap.size q (primesTo v N k))) (fun _ c _ => m - (intOf c).toNat)
  case atStart => exact ⟨0, Nat.zero_le _, rfl, hL1, hLa1, k1, HO1⟩
  case round =>
    clear hL1 hLa1 k1 HO1
    obtain ⟨k, hk, rfl, hL, hLa, k0, hO⟩ := hrel
    by_cases hkl : k < m
    · obtain ⟨g, rfl, hc0⟩ := HCS.out k hkl
      have hga : g < wa.heap.size := by
        rcases Nat.lt_or_ge g wa.heap.size with h | h
        · exact h
        · rw [World.cell?, Array.getElem?_eq_none (by simpa using h)] at hc0; cases hc0
      have hk1 : (k : Int) < (m : Int) := by omega
      have hk0 : (0 : Int) ≤ (k : Int) := by omega
      have hmk := HMem.out k hkl
      have HH := Lib.hid (HHit.out k hkl)
      have HM := Lib.hid (HMiss.out k hkl)
      have hlen := HLen.out k
      clear HHit HMiss HLen HCS
      generalize (allP N).getD k ByteArray.empty = s at *
      obtain ⟨hsz, hal⟩ := hmk
      have HC0 := Lib.hid hc0
      have hca := cell_later hLa.out hc0
      have HIs := Lib.hid (fun w => HIm.out s (by omega) hal w)
      obtain ⟨M, hM⟩ : ∃ M, 2 ^ N = M := ⟨_, rfl⟩
      rw [hM] at HIs HH HM
      have HIm2 : Hid (∀ i, i < N → ∀ w, Calls Tryd.prog 37 #[.agg #[.int .i64 (N : Int), .int .i64 v], .string (s.extract 0 i ++ t45 ++ s.extract (i + 1) s.size)] w fun e w' => e = .returned (.bool (impF v (wide (sgn s) i) M)) ∧ Gr w w') := fun i hi w => by
        have hz : (s.extract 0 i ++ t45 ++ s.extract (i + 1) s.size).size ≤ 5 := by
          rw [ByteArray.size_append, ByteArray.size_append]
          have : t45.size = 1 := rfl
          simp; omega
        have hp : allIn (s.extract 0 i ++ t45 ++ s.extract (i + 1) s.size) [45, 48, 49] = true := sigs_iff.2 fun q hq => by
          have h1 := sgn_dash (s := s) (i := i) (by omega) q
          have h2 : sgn (s.extract 0 i ++ t45 ++ s.extract (i + 1) s.size) q = byteAt (s.extract 0 i ++ t45 ++ s.extract (i + 1) s.size) q := by unfold sgn; rw [if_pos hq]
          rw [← h2, h1]
          unfold wide
          split
          · exact .inr (.inr rfl)
          · have := sgn_sig hal q
            unfold sigC at this
            omega
        have := HIm.out _ hz hp w
        rw [impF_congr (fun q _ => sgn_dash (by omega) q), hM] at this
        exact this
      have hg0 := fun nn os => Go.cell_grown k0.2.2.2.2 k0.1 nn os
      have hg1 := fun nn os => Go.cell_grown k0.2.2.2.2 k0.2.1 nn os
      have hgc := fun nn os => Go.cell_grown (by have := hLa.out.size; exact Nat.lt_of_lt_of_le hga this) hca nn os
      clear hM HIm hc0
      go_wp2_with fail
      refine wp_region_quiet_grown (by kernel_rfl) (by kernel_rfl) ?_
      repeat (go_big_quiet_step (first | (go_at_call 37; exact Calls.grown_of (HIs.out _))))
      refine wpQuiet_nil ?_
      intro _ hw'
      obtain ⟨⟨nq, osq⟩, hw''⟩ := hw'
      subst hw''
      have hX : Below wr.heap.size wr (Go.Sort.grow (wr.drewN nq) osq) := Gr.below ⟨nq, osq, rfl⟩
      replace hL := chain (B := w.heap.size) (a := w) hL (Nat.le_refl _) hX
      replace hLa := Lib.hid (chain (B := wa.heap.size) (a := wa) hLa.out (Nat.le_refl _) hX)
      replace k0 := keepAt hX k0
      replace hO := Lib.hid (hO.out.keep hX)
      clear hX hg0 hg1 hgc hca HIs
      generalize Go.Sort.grow (wr.drewN nq) osq = w1 at *
      have hszI : (s.size : Int) = (N : Int) := by omega
      have HB : Hid (∀ i, i < N → sgn s i = byteAt s i) := fun i hi => by unfold sgn; rw [if_pos (by omega)]
      have HG5 : Hid (primF v (sgn s) M = gT v (sgn s) M N) := by rw [Hid, gT_five, ← gT_rest (by omega), hsz]
      go_wp2_with fail
      go_loopw [6, 7] (fun b c wy => ∃ i : Nat, i ≤ N ∧ c = .int .i64 (i : Int) ∧ b = .bool (gT v (sgn s) M i) ∧ Below w.heap.size w wy ∧ Hid (Below wa.heap.size wa wy) ∧ C2 wy w.heap.size (.int .i64 (N : Int)) (.int .i64 v) ∧ Hid (OwnsS wy wa.heap.size u4 (primesTo v N k))) (fun _ c _ => N - (intOf c).toNat)
      case atStart => exact ⟨0, Nat.zero_le _, rfl, by rw [gT_zero], hL, hLa, k0, hO⟩
      case round =>
        clear hL hLa k0 hO
        obtain ⟨i, hi, rfl, rfl, hL, hLa, k0, hO⟩ := hrel
        have hca := cell_later hLa.out HC0.out
        by_cases hil : i < N
        · have hi1 : (i : Int) < (s.size : Int) := by omega
          have hi0' : (0 : Int) ≤ (i : Int) := by omega
          have hsi : i < s.size := by omega
          cases hb : gT v (sgn s) M i
          · have HN := Lib.hid (HM.out (by rw [HG5.out]; exact gT_false hb (by omega)))
            clear hb HH HM HIm2
            go_wp2_with fail
            exact ⟨⟨k + 1, by omega, by go_num, hL, hLa, k0, by rw [HN.out]; exact hO⟩, by simp [intOf]; omega⟩
          · have HS := Lib.hid (gT_succ v (sgn s) M i)
            have hbi := byteAt_eq s i hsi
            have hg0 := fun nn os => Go.cell_grown k0.2.2.2.2 k0.1 nn os
            have hg1 := fun nn os => Go.cell_grown k0.2.2.2.2 k0.2.1 nn os
            have hgc := fun nn os => Go.cell_grown (by have := hLa.out.size; exact Nat.lt_of_lt_of_le hga this) hca nn os
            by_cases h45 : byteAt s i = 45
            · have HS2 : Hid (gT v (sgn s) M (i + 1) = true) := by rw [Hid, HS.out, hb, HB.out i hil, h45]; rfl
              have hq : ((s[i].toNat : Int) == 45) = true := by rw [← hbi, h45]; rfl
              clear hb HH HM HIm2 HS h45 hbi
              go_wp2_with fail
              refine wp_region_quiet_grown (by kernel_rfl) (by kernel_rfl) ?_
              repeat (go_big_quiet_step (first | fail))
              refine wpQuiet_nil ?_
              intro _ hw'
              obtain ⟨⟨nq, osq⟩, hw''⟩ := hw'
              subst hw''
              have hX : Below wr.heap.size wr (Go.Sort.grow (wr.drewN nq) osq) := Gr.below ⟨nq, osq, rfl⟩
              replace hL := chain (B := w.heap.size) (a := w) hL (Nat.le_refl _) hX
              replace hLa := Lib.hid (chain (B := wa.heap.size) (a := wa) hLa.out (Nat.le_refl _) hX)
              replace k0 := keepAt hX k0
              replace hO := Lib.hid (hO.out.keep hX)
              clear hX hg0 hg1 hgc hca
              go_wp2_with fail
              exact ⟨⟨i + 1, by omega, by go_num, by rw [HS2.out], hL, hLa, k0, hO⟩, by simp [intOf]; omega⟩
            · have hq : ((s[i].toNat : Int) == 45) = false := by rw [← hbi]; simpa using h45
              have HW : Hid (∀ w, Calls Tryd.prog 37 #[.agg #[.int .i64 (N : Int), .int .i64 v], .string (s.extract 0 i ++ (⟨#[45]⟩ : ByteArray) ++ s.extract (i + 1) N)] w fun e w' => e = .returned (.bool (impF v (wide (sgn s) i) M)) ∧ Gr w w') := fun w => by
                have := HIm2.out i hil w
                rw [hsz] at this
                exact this
              have HS2 : Hid (gT v (sgn s) M (i + 1) = !impF v (wide (sgn s) i) M) := by rw [Hid, HS.out, hb, HB.out i hil, decide_eq_false h45]; rfl
              have hx1 : (s.extract 0 i).size = i := by simp; omega
              have hx2 : (s.extract (i + 1) s.size).size = s.size - (i + 1) := by simp
              have hcat1 : ¬ 9223372036854775807 < (s.extract 0 i).size + 1 := by omega
              have hcat2 : ¬ 9223372036854775807 < (s.extract 0 i).size + 1 + (s.extract (i + 1) s.size).size := by omega
              clear hb HH HM HIm2 HS h45 hbi
              generalize impF v (wide (sgn s) i) M = bw at *
              go_wp2_with fail
              refine wp_region_quiet_grown (by kernel_rfl) (by kernel_rfl) ?_
              repeat (go_big_quiet_step (first | (go_at_call 37; exact Calls.grown_of (HW.out _))))
              refine wpQuiet_nil ?_
              intro _ hw'
              obtain ⟨⟨nq, osq⟩, hw''⟩ := hw'
              subst hw''
              have hX : Below wr.heap.size wr (Go.Sort.grow (wr.drewN nq) osq) := Gr.below ⟨nq, osq, rfl⟩
              replace hL := chain (B := w.heap.size) (a := w) hL (Nat.le_refl _) hX
              replace hLa := Lib.hid (chain (B := wa.heap.size) (a := wa) hLa.out (Nat.le_refl _) hX)
              replace k0 := keepAt hX k0
              replace hO := Lib.hid (hO.out.keep hX)
              clear hX hg0 hg1 hgc hca hx1 hx2 hcat1 hcat2 HW
              go_wp2_with fail
              exact ⟨⟨i + 1, by omega, by go_num, by rw [HS2.out], hL, hLa, k0, hO⟩, by simp [intOf]; omega⟩
        · have e : i = N := by omega
          have hin : ¬ (i : Int) < (s.size : Int) := by omega
          cases hb : gT v (sgn s) M i
          · have HN := Lib.hid (HM.out (by rw [HG5.out, ← e]; exact hb))
            clear hb HH HM HIm2 e
            go_wp2_with fail
            exact ⟨⟨k + 1, by omega, by go_num, hL, hLa, k0, by rw [HN.out]; exact hO⟩, by simp [intOf]; omega⟩
          · have HN := Lib.hid (HH.out (by rw [HG5.out, ← e]; exact hb))
            have hz4 := hL.size
            have hz5 := hLa.out.size
            have hfrom := Lib.hid hO.out.lt
            have HOa := Lib.hid (fun o => World.ownsRow.alloc hO.out o)
            clear hb HH HM HIm2 e
            generalize primesTo v N k = L at *
            go_wp2_with (at_builtin; refine wpList_append_own _ rfl _ _ 38 rfl wa.heap.size 9 i0 (.string ByteArray.empty) 1 16 Tryd.underlying38 hi0 hz0 hz1 hz2 rfl (by decide) _ L.length (L.map Value.string) rfl (HOa.out _) ⟨wr.heap.size, 0, none⟩ 1 1 [.string s] rfl rfl (cell_one_new _ _ _) (by simp [Value.oneCell']) (by unfold maxLen; omega) (by omega) (by simp; omega) ?_; intro v' w5 hown' hgrow hnil)
            exact ⟨⟨k + 1, by omega, by go_num, (hL.alloc (by omega) _).grown hgrow (by simp; omega) (fun b e => by have := (hfrom.out b e).1; omega), (hLa.out.alloc hz5 _).grown hgrow (by simp; omega) (fun b e => (hfrom.out b e).1), (k0.alloc _).grown hgrow (fun e => absurd (hfrom.out _ e).1 (by omega)), by rw [HN.out]; exact OwnsS.snoc hown'⟩, by simp [intOf]; omega⟩
    · have e : k = m := by omega
      have hkn : ¬ (k : Int) < (m : Int) := by omega
      rw [e, HAll.out] at hO
      clear e
      go_wp2_with fail
      go_ret
      exact ⟨_, rfl, hO.out.monoB (by omega), hL⟩

end Go.Proofs.YtohmhiodmaahfaaDoor
