/- LadderChance: the model's. -/
import Derived.Test.YtibfenkaoaclfaaLad
namespace Go.Proofs.Ytibfenkaoaclfaa
open Go.RowKit
set_option linter.unusedVariables false

theorem l05Ladder_b (a b M : Int) (w : World) {c : Bool} (hc : decide ((1 ≤ a ∧ a ≤ M) ∧ (1 ≤ b ∧ b ≤ M)) = c) :
    Calls Try.prog 45 #[.int .i64 a, .int .i64 b, .int .i64 M] w fun e w' => e = .returned (.bool c) ∧ w = w' := by
  by_cases h1 : 1 ≤ a ∧ a ≤ M
  · have H1 := Lib.hid (fun w => l01In_yes a 1 M w h1)
    by_cases h2 : 1 ≤ b ∧ b ≤ M
    · have H2 := Lib.hid (fun w => l01In_yes b 1 M w h2)
      have HC : Hid (c = true) := by rw [Hid, ← hc]; exact decide_eq_true ⟨h1, h2⟩
      clear hc h1 h2
      go_enter Try.func45, Try.ntmps45
      go_wp2_with (first | (go_at_call 37; (with_reducible refine (H1.out _).mono ?_); rintro e w' ⟨rfl, rfl⟩) | (go_at_call 37; (with_reducible refine (H2.out _).mono ?_); rintro e w' ⟨rfl, rfl⟩))
      go_ret
      exact ⟨by rw [HC.out]; rfl, rfl⟩
    · have H2 := Lib.hid (fun w => l01In_no b 1 M w h2)
      have HC : Hid (c = false) := by rw [Hid, ← hc]; exact decide_eq_false fun h => h2 h.2
      clear hc h1 h2
      go_enter Try.func45, Try.ntmps45
      go_wp2_with (first | (go_at_call 37; (with_reducible refine (H1.out _).mono ?_); rintro e w' ⟨rfl, rfl⟩) | (go_at_call 37; (with_reducible refine (H2.out _).mono ?_); rintro e w' ⟨rfl, rfl⟩))
      go_ret
      exact ⟨by rw [HC.out]; rfl, rfl⟩
  · have H1 := Lib.hid (fun w => l01In_no a 1 M w h1)
    have HC : Hid (c = false) := by rw [Hid, ← hc]; exact decide_eq_false fun h => h1 h.1
    clear hc h1
    go_enter Try.func45, Try.ntmps45
    go_wp2_with (go_at_call 37; (with_reducible refine (H1.out _).mono ?_); rintro e w' ⟨rfl, rfl⟩)
    go_ret
    exact ⟨by rw [HC.out]; rfl, rfl⟩

set_option maxHeartbeats 1000000 in
theorem l05Power_any (v : Value) (F : List Int) (K : Nat) (w : World) (ha : Reads w v (W F)) (hF : 1 ≤ F.length) (hK : K ≤ 1000) (hT : (powL F K).length ≤ 10000) (hF2 : F.length ≤ 10000) :
    Calls Try.prog 46 #[v, .int .i64 (K : Int)] w fun e w' => ∃ u, e = .returned u ∧ Owns w' w.heap.size u (W (powL F K)) ∧ Below w.heap.size w w' := by
  have HA := Lib.hid ha
  have HT := Lib.hid hT
  have o1 := owns_one w 2 1 (by unfold wrap64; rfl)
  have hL0 : Below w.heap.size w (w.alloc (.cells #[.int .i64 1] 2)) := (Below.refl _ _).alloc (Nat.le_refl _) _
  clear ha hT
  go_enter Try.func46, Try.ntmps46
  go_wp2_with fail
  go_loopw [1, 5] (fun c u wr => ∃ k j : Nat, k + j = K ∧ c = .int .i64 (k : Int) ∧ Below w.heap.size w wr ∧ Owns wr w.heap.size u (W (powL F j))) (fun c _ _ => (intOf c).toNat)
  case atStart => exact ⟨K, 0, by omega, rfl, hL0, o1⟩
  case round =>
    clear hL0 o1
    obtain ⟨k, j, hkj, rfl, hL, oo⟩ := hrel
    by_cases hk : 0 < k
    · have hk1 : (0 : Int) < (k : Int) := by omega
      have HLn : Hid ((powL F j).length ≤ 10000 ∧ 1 ≤ (powL F j).length) := by
        have h1 := HT.out
        rw [powL_len F hF] at h1
        unfold Hid
        rw [powL_len F hF]
        have : (F.length - 1) * j ≤ (F.length - 1) * K := Nat.mul_le_mul_left _ (by omega)
        omega
      have HS : Hid ((k : Int) - 1 = ((k - 1 : Nat) : Int)) := by unfold Hid; omega
      have hz := hL.size
      have HOO := Lib.hid oo
      clear oo
      go_wp2_with fail
      refine (l05Times_any _ _ (powL F j) F _ HOO.out.reads (HA.out.keep hL) HLn.out.2 HLn.out.1 hF hF2).mono ?_
      rintro e w2 ⟨u, rfl, o2, hb2⟩
      have hL2 := chain (B := w.heap.size) (a := w) hL (Nat.le_refl _) hb2
      have HO2 := Lib.hid (o2.mono hz)
      clear o2 hb2 hL
      go_wp2_with fail
      exact ⟨⟨k - 1, j + 1, by omega, by rw [HS.out], hL2, HO2.out⟩, by simp [intOf]; omega⟩
    · obtain rfl : k = 0 := by omega
      obtain rfl : j = K := by omega
      go_wp2_with fail
      go_ret
      exact ⟨_, rfl, oo, hL⟩

/-! ### all signs turned, and one more at the beginning -/
def negTo (P : Nat → Int) (j : Nat) : Nat → Int := fun k => if k < j then - P k else P k
theorem negTo_step (P : Nat → Int) (j : Nat) : (fun k => if k = j then - P j else negTo P j k) = negTo P (j + 1) := by
  funext k
  unfold negTo
  by_cases h : k = j
  · subst h; rw [if_pos rfl, if_pos (by omega)]
  · rw [if_neg h]
    by_cases h2 : k < j
    · rw [if_pos h2, if_pos (by omega)]
    · rw [if_neg h2, if_neg (by omega)]
theorem neg_lad (p : List Int) (hp : 1 ≤ p.length) : (W (listF p.length (negTo (cf p) p.length))).set 0 (wrap64 (wrap64 (- cf p 0) + 1)) = W (omL p) := by
  rw [W_listF, listF_set _ _ _ _ hp, ← listF_cf (omL p), omL_len p hp, W_listF]
  refine listF_congr fun k hk => ?_
  rw [cf_omL]
  unfold cstF negTo
  by_cases h : k = 0
  · subst h; rw [if_pos rfl, if_pos rfl, wrap_wrap_add]; congr 1; omega
  · rw [if_neg h, if_neg h, if_pos hk]; congr 1; omega
theorem wrap_neg (x : Int) : wrap64 (-(wrap64 x)) = wrap64 (-x) := by unfold wrap64; omega

theorem ownsN_cell {w : World} {base b cap N : Nat} {xs : List Int} (h : Owns w base (.slice (some ⟨b, 0, none⟩) N cap) xs) (hl : xs.length = N) (k : Nat) (hk : k < N) : w.cell? ⟨b, k, none⟩ = some (.int .i64 (xs.getD k 0)) ∧ w.frozen? ⟨b, k, none⟩ = false := by
  subst hl; exact h.cell k hk
theorem ownsN_store {w : World} {base b cap N : Nat} {xs : List Int} (h : Owns w base (.slice (some ⟨b, 0, none⟩) N cap) xs) (hl : xs.length = N) (k : Nat) (x : Int) : Owns (w.setCell ⟨b, k, none⟩ (.int .i64 x)) base (.slice (some ⟨b, 0, none⟩) N cap) (xs.set k x) := by
  subst hl; exact h.store k x
theorem W_at (N : Nat) (P : Nat → Int) (k : Nat) (h : k < N) : (W (listF N P)).getD k 0 = wrap64 (P k) := by
  rw [W_listF, listF_get _ _ _ h]

set_option maxRecDepth 100000 in
set_option maxHeartbeats 2000000 in
theorem sLadderChance_any (a b : Int) (w : World) :
    Calls Try.prog 20 #[.int .i64 a, .int .i64 b] w fun e w' => ∃ u, e = .returned (.tuple #[u, .int .i64 (resLadderChance_1 a b)]) ∧ Reads w' u (resLadderChance_0 a b) ∧ Below w.heap.size w w' := by
  by_cases h12 : (1 ≤ a ∧ a ≤ 24) ∧ (1 ≤ b ∧ b ≤ 24)
  · have H1 := Lib.hid (fun w => l05Ladder_b a b 24 w (decide_eq_true h12))
    obtain ⟨h1, h2⟩ := h12
    obtain ⟨A, rfl⟩ := Int.eq_ofNat_of_zero_le (show 0 ≤ a by omega)
    obtain ⟨B, rfl⟩ := Int.eq_ofNat_of_zero_le (show 0 ≤ b by omega)
    have hAB : A * B ≤ 24 * 24 := Nat.mul_le_mul (by omega) (by omega)
    have hAB0 : ((A * B : Nat) : Int) = (A : Int) * (B : Int) := Int.natCast_mul A B
    obtain ⟨Q, hQ⟩ : ∃ Q : Int, (A : Int) * (B : Int) = Q := ⟨_, rfl⟩
    have hQ0 : 0 ≤ Q ∧ Q ≤ 576 := by omega
    obtain ⟨hQ1, hQ2⟩ := hQ0
    by_cases h3 : Q ≤ 24
    · obtain ⟨r0, r1⟩ := lad_yes (a := (A : Int)) (b := (B : Int)) ⟨h1, h2, by omega⟩
      rw [r0, r1]
      obtain ⟨i0, hi, hz0, hz1, hz2⟩ := info_parts info64
      have HLen : Hid ((lineL A).length = A + 1 ∧ (powL (lineL A) B).length = A * B + 1) := ⟨lineL_len A, ladP_len⟩
      have hA1 : 1 ≤ A ∧ A ≤ 24 := by omega
      have hB1 : 1 ≤ B ∧ B ≤ 24 := by omega
      have HAB : Hid (A * B ≤ 576) := hAB
      obtain ⟨hA1, hA2⟩ := hA1
      obtain ⟨hB1, hB2⟩ := hB1
      have HLine : Hid ((((List.replicate (A + 1) (0 : Int)).set 0 1).set A (-1)) = W (lineL A)) := by
        unfold Hid
        have e : List.replicate (A + 1) (0 : Int) = listF (A + 1) (fun _ => 0) := by
          apply List.ext_getElem <;> simp [listF]
        rw [e, listF_set _ _ _ _ (by omega), listF_set _ _ _ _ (by omega)]
        unfold lineL
        rw [W_listF]
        refine listF_congr fun k hk => ?_
        by_cases e1 : k = A
        · simp only [e1, if_true]; unfold wrap64; rfl
        · simp only [e1, if_false]; split <;> (unfold wrap64; rfl)
      clear r0 r1 h1 h2 hAB hAB0
      go_enter Try.func20, Try.ntmps20
      go_upto_region 4 with (first | (go_at_call 45; (with_reducible refine (H1.out _).mono ?_); rintro e w' ⟨rfl, rfl⟩) | (at_make; refine wpList_make_full _ rfl _ _ 22 rfl w.heap.size 2 i0 (.int .i64 0) 1 Try.underlying22 hi hz0 hz1 .i64 .i64 ((A : Int) + 1) ((A : Int) + 1) (A + 1) rfl rfl rfl rfl (by rw [hz2]; omega) (by unfold maxLen; omega) (Nat.le_refl _) ?_; intro w1 oo hgr))
      have hL1 : Below w.heap.size w w1 := Below.grown (Below.refl _ w) hgr (Nat.le_refl _) (by simp)
      rw [made_zero] at oo
      have hlr : (List.replicate (A + 1) (0 : Int)).length = A + 1 := by simp
      have oO : Owns w1 w.heap.size (.slice (some ⟨w.heap.size, 0, none⟩) (List.replicate (A + 1) (0 : Int)).length (A + 1)) (List.replicate (A + 1) (0 : Int)) := by
        unfold Owns; rw [hlr]; exact oo
      have s1 := oO.store 0 1
      rw [show (List.replicate (A + 1) (0 : Int)).length = ((List.replicate (A + 1) (0 : Int)).set 0 1).length by simp] at s1
      have s2 := s1.store A (-1)
      rw [HLine.out, show ((List.replicate (A + 1) (0 : Int)).set 0 1).length = A + 1 by simp] at s2
      obtain ⟨hc0, hf0⟩ := oO.cell 0 (by simp)
      have hcA : ∃ u, (w1.setCell ⟨w.heap.size, 0, none⟩ (.int .i64 1)).cell? ⟨w.heap.size, A, none⟩ = some u := ⟨_, (s1.cell A (by simp)).1⟩
      have hfA := (s1.cell A (by simp)).2
      obtain ⟨uA, hcA⟩ := hcA
      have HS2 := Lib.hid s2
      have hL2 := (hL1.setCell (p := ⟨w.heap.size, 0, none⟩) (Nat.le_refl _) (.int .i64 1)).setCell (p := ⟨w.heap.size, A, none⟩) (Nat.le_refl _) (.int .i64 (-1))
      have hi0 : (0 : Int) ≤ (A : Int) := by omega
      have hi1 : (A : Int) < (A : Int) + 1 := by omega
      have hi2 : (0 : Int) < (A : Int) + 1 := by omega
      have hi3 : 0 < A + 1 := by omega
      clear oo hgr oO s1 s2 hlr hi hz0 hz1 hz2 HLine hL1
      rw [List.getD_eq_getElem?_getD] at hc0
      go_wp2_with fail
      refine (l05Power_any _ (lineL A) B _ HS2.out.reads (by have := HLen.out.1; omega) (by omega) (by have := HLen.out.2; have := HAB.out; omega) (by have := HLen.out.1; omega)).mono ?_
      rintro e w3 ⟨u3, rfl, o3, hb3⟩
      have hL3 := chain (B := w.heap.size) (a := w) hL2 (Nat.le_refl _) hb3
      have hz3 := hL2.size
      obtain ⟨p, hp⟩ : ∃ p, powL (lineL A) B = p := ⟨_, rfl⟩
      have HP := Lib.hid hp
      rw [hp] at o3 HLen
      have HFin : Hid (W (omL p) = ladL (A : Int) (B : Int)) := by unfold Hid ladL; rw [Int.toNat_natCast, Int.toNat_natCast, hp]
      obtain ⟨N, hN⟩ : ∃ N, p.length = N := ⟨_, rfl⟩
      have hN1 : 1 ≤ N ∧ N ≤ 1000 := by have := HLen.out.2; have := HAB.out; omega
      obtain ⟨b3, c3, rfl, hb3b, _⟩ := o3.form (by rw [W_len]; omega)
      have o4 : Owns w3 w.heap.size (.slice (some ⟨b3, 0, none⟩) N c3) (W (listF N (negTo (cf p) 0))) := by
        have e : listF N (negTo (cf p) 0) = p := by
          rw [← hN]
          have : listF p.length (negTo (cf p) 0) = listF p.length (cf p) := listF_congr fun k hk => by unfold negTo; rw [if_neg (by omega)]
          rw [this, listF_cf]
        rw [W_len, hN] at o3
        rw [e]; exact o3.mono hz3
      have HNL := Lib.hid (neg_lad p (by omega))
      rw [hN] at HNL
      have hbb : w.heap.size ≤ b3 := Nat.le_trans hz3 hb3b
      rw [W_len, hN]
      generalize cf p = P at *
      obtain ⟨hN1, hN2⟩ := hN1
      clear o3 hb3 hL2 HS2 hcA hfA hc0 hf0 hi2 hi3 hp hN hb3b HLen HP
      go_wp2_with fail
      go_loopw [32] (fun c wr => ∃ k : Nat, k ≤ N ∧ c = .int .i64 (k : Int) ∧ Below w.heap.size w wr ∧ Owns wr w.heap.size (.slice (some ⟨b3, 0, none⟩) N c3) (W (listF N (negTo P k)))) (fun c _ => N - (intOf c).toNat)
      case atStart => exact ⟨0, Nat.zero_le _, rfl, hL3, o4⟩
      case round =>
        clear hL3 o4
        obtain ⟨k, hk, rfl, hL, oo⟩ := hrel
        have hl : (W (listF N (negTo P k))).length = N := by rw [W_len, listF_len]
        by_cases hlt : k < N
        · have hcc := ownsN_cell oo hl k hlt
          rw [W_at _ _ _ hlt] at hcc
          have e1 : negTo P k k = P k := by unfold negTo; rw [if_neg (by omega)]
          rw [e1] at hcc
          obtain ⟨hc0, hf0⟩ := hcc
          have hi1 : (k : Int) < (N : Int) := by omega
          have hi0 : (0 : Int) ≤ (k : Int) := by omega
          have HST := Lib.hid (ownsN_store oo hl k (wrap64 (- P k)))
          have HSE : Hid ((W (listF N (negTo P k))).set k (wrap64 (- P k)) = W (listF N (negTo P (k + 1)))) := by
            unfold Hid W
            rw [← List.map_set, listF_set _ _ _ _ hlt, negTo_step]
          have HV := Lib.hid (wrap_neg (P k))
          clear oo e1 hl
          generalize P k = y at *
          go_wp2_with fail
          rw [HV.out]
          exact ⟨⟨k + 1, by omega, by go_num, hL.setCell (p := ⟨b3, k, none⟩) hbb _, by rw [← HSE.out]; exact HST.out⟩, by simp [intOf]; omega⟩
        · have e : k = N := by omega
          subst e
          have hcc := ownsN_cell oo hl 0 (by omega)
          rw [W_at _ _ _ (by omega)] at hcc
          have e1 : negTo P k 0 = - P 0 := by unfold negTo; rw [if_pos (by omega)]
          rw [e1] at hcc
          obtain ⟨hc0, hf0⟩ := hcc
          have hi1 : (0 : Int) < (k : Int) := by omega
          have hi2 : 0 < k := by omega
          have HST := Lib.hid (ownsN_store oo hl 0 (wrap64 (wrap64 (- P 0) + 1)))
          rw [HNL.out, HFin.out] at HST
          clear oo e1 hl HNL
          generalize wrap64 (- P 0) = y at *
          go_wp2_with fail
          go_ret2
          exact ⟨_, rfl, HST.out.reads, hL.setCell (p := ⟨b3, 0, none⟩) hbb _⟩
    · obtain ⟨r0, r1⟩ := lad_no (a := (A : Int)) (b := (B : Int)) (fun h => h3 (by rw [← hQ]; exact h.2.2))
      rw [r0, r1]
      clear r0 r1 h1 h2 hAB hAB0
      go_enter Try.func20, Try.ntmps20
      go_wp2_with (go_at_call 45; (with_reducible refine (H1.out _).mono ?_); rintro e w' ⟨rfl, rfl⟩)
      go_ret2
      exact ⟨_, rfl, Owns.reads (World.ownsRow_nil _ _ _ _ : Owns _ w.heap.size _ []), Below.refl _ _⟩
  · obtain ⟨r0, r1⟩ := lad_no (a := a) (b := b) (fun h => h12 ⟨h.1, h.2.1⟩)
    rw [r0, r1]
    have H1 := Lib.hid (fun w => l05Ladder_b a b 24 w (decide_eq_false h12))
    clear r0 r1 h12
    go_enter Try.func20, Try.ntmps20
    go_wp2_with (go_at_call 45; (with_reducible refine (H1.out _).mono ?_); rintro e w' ⟨rfl, rfl⟩)
    go_ret2
    exact ⟨_, rfl, Owns.reads (World.ownsRow_nil _ _ _ _ : Owns _ w.heap.size _ []), Below.refl _ _⟩

end Go.Proofs.Ytibfenkaoaclfaa
