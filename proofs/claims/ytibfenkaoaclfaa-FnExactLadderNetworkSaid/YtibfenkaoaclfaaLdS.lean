/- LadderNetwork: the model's. -/
import Derived.Test.YtibfenkaoaclfaaLdI
import Derived.Test.YtibfenkaoaclfaaExS
import Derived.Test.YtibfenkaoaclfaaLadS
namespace Go.Proofs.Ytibfenkaoaclfaa
open Go.RowKit
set_option linter.unusedVariables false

set_option maxRecDepth 100000 in
set_option maxHeartbeats 2000000 in
theorem sLadderNetwork_no (a b : Int) (w : World) (h : ¬ ldOk a b) :
    Calls Try.prog 22 #[.int .i64 a, .int .i64 b] w fun e w' => e = .returned (.tuple #[.agg #[.int .i64 0, .slice none 0 0], .int .i64 2]) ∧ Below w.heap.size w w' := by
  have hL : Below w.heap.size w (w.alloc (.cells #[.int .i64 0, .slice none 0 0] 37)) := (Below.refl _ w).alloc (Nat.le_refl _) _
  have ko := C2.here w (.int .i64 0) (.slice none 0 0) 37
  have H1 := Lib.hid (fun w => l05Ladder_b a b 12 w (decide_eq_false h))
  clear h
  go_enter Try.func22, Try.ntmps22
  go_wp2_with (go_at_call 45; (with_reducible refine (H1.out _).mono ?_); rintro e w' ⟨rfl, rfl⟩)
  refine bodyPost_ret (v := .tuple #[.agg #[.int .i64 0, .slice none 0 0], .int .i64 2]) (by simp [results, Try.results22, go_sem, *]) rfl ?_
  exact ⟨rfl, hL⟩

set_option maxRecDepth 100000 in
set_option maxHeartbeats 2000000 in
theorem sLadderNetwork_lim (a b : Nat) (w : World) (h : ldOk (a : Int) (b : Int)) (h2 : ¬ ldIn (a : Int) (b : Int)) :
    Calls Try.prog 22 #[.int .i64 (a : Int), .int .i64 (b : Int)] w fun e w' => e = .returned (.tuple #[.agg #[.int .i64 0, .slice none 0 0], .int .i64 3]) ∧ Below w.heap.size w w' := by
  have hL : Below w.heap.size w (w.alloc (.cells #[.int .i64 0, .slice none 0 0] 37)) := (Below.refl _ w).alloc (Nat.le_refl _) _
  have ko := C2.here w (.int .i64 0) (.slice none 0 0) 37
  have H1 := Lib.hid (fun w => l05Ladder_b (a : Int) (b : Int) 12 w (decide_eq_true h))
  obtain ⟨⟨a1, a2⟩, b1, b2⟩ := h
  obtain ⟨e1, e2⟩ := ld_nat a b (by omega)
  obtain ⟨s1, s2⟩ := ld_size a b (by omega) (by omega)
  unfold ldIn at h2
  generalize (a : Int) = AA at *
  obtain ⟨A1, hA⟩ : ∃ A1, AA - 1 = A1 := ⟨_, rfl⟩
  rw [hA] at e1 h2
  obtain ⟨Q1, hQ1⟩ : ∃ Q1, A1 * (b : Int) = Q1 := ⟨_, rfl⟩
  obtain ⟨Q2, hQ2⟩ : ∃ Q2, AA * (b : Int) = Q2 := ⟨_, rfl⟩
  rw [hQ1] at e1 h2
  rw [hQ2] at e2 h2
  have b1' : 0 ≤ Q1 ∧ Q1 ≤ 1000 ∧ 0 ≤ Q2 ∧ Q2 ≤ 1000 := by omega
  obtain ⟨q1, q2, q3, q4⟩ := b1'
  by_cases h8 : 8 < 2 + Q1
  · clear e1 e2 h2 s1 s2
    go_enter Try.func22, Try.ntmps22
    go_wp2_with (go_at_call 45; (with_reducible refine (H1.out _).mono ?_); rintro e w' ⟨rfl, rfl⟩)
    refine bodyPost_ret (v := .tuple #[.agg #[.int .i64 0, .slice none 0 0], .int .i64 3]) (by simp [results, Try.results22, go_sem, *]) rfl ?_
    exact ⟨rfl, hL⟩
  · have h12 : 12 < Q2 := by omega
    clear e1 e2 h2 s1 s2
    go_enter Try.func22, Try.ntmps22
    go_wp2_with (go_at_call 45; (with_reducible refine (H1.out _).mono ?_); rintro e w' ⟨rfl, rfl⟩)
    refine bodyPost_ret (v := .tuple #[.agg #[.int .i64 0, .slice none 0 0], .int .i64 3]) (by simp [results, Try.results22, go_sem, *]) rfl ?_
    exact ⟨rfl, hL⟩

theorem atL_next {a q k : Nat} (h : k + 1 < a) : nxL a q k = atL q (k + 1) := by
  unfold nxL atL
  rw [if_neg (by omega), if_neg (by omega), show q + k + 2 = q + (k + 1) + 1 by omega]
theorem ladCs_at {a b l q k n : Nat} (hq : q = l * (a - 1)) (hn : n = l * a) (hl : l < b) (hk : k < a) : n + k < (ladCs a (b * a)).length ∧ (ladCs a (b * a)).getD (n + k) [] = ladE a q k := by
  subst hq hn
  have h1 : l * a + k < b * a := by
    have h2 : (l + 1) * a ≤ b * a := Nat.mul_le_mul_right _ (by omega)
    rw [Nat.succ_mul] at h2; omega
  refine ⟨by rw [ladCs_len]; exact h1, ?_⟩
  obtain ⟨h2, h3⟩ := lad_div (l := l) hk
  rw [ladCs_getD h1, h2, h3]

set_option maxRecDepth 100000 in
set_option maxHeartbeats 4000000 in
theorem sLadderNetwork_yes (a b : Nat) (w : World) (h : ldOk (a : Int) (b : Int)) (h2 : ldIn (a : Int) (b : Int)) :
    Calls Try.prog 22 #[.int .i64 (a : Int), .int .i64 (b : Int)] w fun e w' => ∃ sa sc, e = .returned (.tuple #[.agg #[.int .i64 ((b * (a - 1) + 2 : Nat) : Int), .slice sa (ladCs a (b * a)).length sc], .int .i64 0]) ∧ Reads2 w' (.slice sa (ladCs a (b * a)).length sc) (sortL (ladCs a (b * a))) ∧ Below w.heap.size w w' := by
  have H1 := Lib.hid (fun w => l05Ladder_b (a : Int) (b : Int) 12 w (decide_eq_true h))
  obtain ⟨⟨a1, a2⟩, b1, b2⟩ := h
  obtain ⟨m1, m2⟩ := h2
  obtain ⟨e1, e2⟩ := ld_nat a b (by omega)
  obtain ⟨A, rfl⟩ : ∃ A, a = A + 1 := ⟨a - 1, by omega⟩
  have hAi : ((A + 1 : Nat) : Int) - 1 = (A : Int) := by omega
  have HA : Hid (A + 1 ≤ 12 ∧ 1 ≤ b ∧ b ≤ 12) := by unfold Hid; omega
  rw [hAi] at e1 m1
  obtain ⟨Q1, hQ1⟩ : ∃ Q1, (A : Int) * (b : Int) = Q1 := ⟨_, rfl⟩
  obtain ⟨Q2, hQ2⟩ : ∃ Q2, ((A + 1 : Nat) : Int) * (b : Int) = Q2 := ⟨_, rfl⟩
  rw [hQ1] at e1 m1
  rw [hQ2] at e2 m2
  have b1' : 0 ≤ Q1 ∧ Q1 ≤ 6 ∧ 0 ≤ Q2 ∧ Q2 ≤ 12 := by omega
  obtain ⟨q1, q2, q3, q4⟩ := b1'
  have HLen : Hid ((ladCs (A + 1) (b * (A + 1))).length = b * (A + 1) ∧ b * (A + 1) ≤ 12) := ⟨ladCs_len _ _, by omega⟩
  rw [← e1]
  have HLe := Lib.hid (ladCs_len (A + 1) (b * (A + 1)))
  have HAt : Hid (∀ l q k n : Nat, q = l * A → n = l * (A + 1) → l < b → k < A + 1 → n + k < (ladCs (A + 1) (b * (A + 1))).length ∧ (ladCs (A + 1) (b * (A + 1))).getD (n + k) [] = ladE (A + 1) q k) := fun l q k n h1 h2 h3 h4 => ladCs_at h1 h2 h3 h4
  generalize hLL : ladCs (A + 1) (b * (A + 1)) = L at *
  clear hLL
  generalize hAA : ((A + 1 : Nat) : Int) = AA at *
  have hA0 : (0 : Int) ≤ AA ∧ AA ≤ 12 := by omega
  obtain ⟨hA1, hA2⟩ := hA0
  have HAA := Lib.hid hAA
  have hB12 : (b : Int) ≤ 12 := by omega
  have ho := C2.here w (.int .i64 0) (.slice none 0 0) 37
  have hL0 : Below w.heap.size w (w.alloc (.cells #[.int .i64 0, .slice none 0 0] 37)) := (Below.refl _ w).alloc (Nat.le_refl _) _
  have kx := C2.here ((w.alloc (.cells #[.int .i64 0, .slice none 0 0] 37)).alloc (.cells #[] 22)) (.int .i64 (2 + Q1)) (.slice (some ⟨w.heap.size + 1, 0, none⟩) 0 0) 37
  simp only [World.size_alloc, Nat.add_assoc, Nat.reduceAdd] at kx
  have ko := (ho.alloc (.cells #[] 22)).alloc (.cells #[.int .i64 (2 + Q1), .slice (some ⟨w.heap.size + 1, 0, none⟩) 0 0] 37)
  have R0 : Hid (Rows1 (((w.alloc (.cells #[.int .i64 0, .slice none 0 0] 37)).alloc (.cells #[] 22)).alloc (.cells #[.int .i64 (2 + Q1), .slice (some ⟨w.heap.size + 1, 0, none⟩) 0 0] 37)) (w.heap.size + 1) (.slice (some ⟨w.heap.size + 1, 0, none⟩) 0 0) []) := by
    refine rows1_nil _ _ _ (Nat.le_refl _) ?_
    have h := heap_alloc_new (w.alloc (.cells #[.int .i64 0, .slice none 0 0] 37)) (.cells #[] 22)
    rw [World.size_alloc] at h
    rw [heap_alloc_old _ _ (by simp)]
    exact h
  have hL1 := (hL0.alloc (by simp) (.cells #[] 22)).alloc (by simp; omega) (.cells #[.int .i64 (2 + Q1), .slice (some ⟨w.heap.size + 1, 0, none⟩) 0 0] 37)
  clear hL0 ho e1 e2 a1 a2 b1 b2 hAA
  go_enter Try.func22, Try.ntmps22
  go_wp2_with (go_at_call 45; (with_reducible refine (H1.out _).mono ?_); rintro e w' ⟨rfl, rfl⟩)
  go_loopw [7, 8, 9, 10] (fun cl _ _ _ wr => ∃ (l q n : Nat) (sa : Option Addr) (sc : Nat), l ≤ b ∧ cl = .int .i64 (l : Int) ∧ Hid (q = l * A ∧ n = l * (A + 1)) ∧ Below w.heap.size w wr ∧ C2 wr w.heap.size (.int .i64 0) (.slice none 0 0) ∧ C2 wr (w.heap.size + 2) (.int .i64 (2 + Q1)) (.slice sa n sc) ∧ Hid (Rows1 wr (w.heap.size + 1) (.slice sa n sc) (sortTo L n)) ∧ Hid ((Value.slice sa n sc).ownBlock ≠ some (w.heap.size + 2)))
    (fun cl _ _ _ _ => b - (intOf cl).toNat)
  case atStart => exact ⟨0, 0, 0, _, _, Nat.zero_le _, rfl, ⟨by simp, by simp⟩, hL1, ko, kx, R0, by unfold Hid; intro e; simp [Value.ownBlock] at e⟩
  case round =>
    clear hL1 ko kx R0
    obtain ⟨l, q, n, sa, sc, hl, rfl, HQ, hL, ko, kx, HR, HSep⟩ := hrel
    by_cases hlt : l < b
    · have hlt' : (l : Int) < (b : Int) := by omega
      have hmul : (l : Int) * (A : Int) = (q : Int) := by rw [HQ.out.1]; exact (Int.natCast_mul l A).symm
      have hq : (q : Int) ≤ 6 ∧ (0 : Int) ≤ (q : Int) := by
        have h1 : l * A ≤ b * A := Nat.mul_le_mul_right _ hl
        have h2 : ((b * A : Nat) : Int) = Q1 := by rw [Int.natCast_mul, Int.mul_comm]; exact hQ1
        rw [← HQ.out.1] at h1
        omega
      obtain ⟨hq1, hq2⟩ := hq
      have HLt := Lib.hid hlt
      clear hlt
      go_wp2_with fail
      go_loopw [8, 9, 10] (fun ca ck _ wr => ∃ (k : Nat) (x : Int) (sa : Option Addr) (sc : Nat), k ≤ A + 1 ∧ ck = .int .i64 (k : Int) ∧ ca = .int .i64 x ∧ Hid (k < A + 1 → x = atL q k) ∧ Below w.heap.size w wr ∧ C2 wr w.heap.size (.int .i64 0) (.slice none 0 0) ∧ C2 wr (w.heap.size + 2) (.int .i64 (2 + Q1)) (.slice sa (n + k) sc) ∧ Hid (Rows1 wr (w.heap.size + 1) (.slice sa (n + k) sc) (sortTo L (n + k))) ∧ Hid ((Value.slice sa (n + k) sc).ownBlock ≠ some (w.heap.size + 2)))
        (fun _ ck _ _ => A + 1 - (intOf ck).toNat)
      case atStart => exact ⟨0, 0, sa, sc, Nat.zero_le _, rfl, rfl, fun _ => rfl, hL, ko, kx, HR, HSep⟩
      case round =>
        clear hL ko kx HR HSep
        obtain ⟨k, x, sa, sc, hk, rfl, rfl, HX, hL, ko, kx, HR, HSep⟩ := hrel
        by_cases hkA : k < A + 1
        · have hkA' : (k : Int) < AA := by have := HAA.out; omega
          obtain ⟨hat1, hat2⟩ := HAt.out l q k n HQ.out.1 HQ.out.2 HLt.out hkA
          have hx : x = atL q k := HX.out hkA
          have hxb : (0 : Int) ≤ x ∧ x ≤ 100 := by have := HA.out; rw [hx]; unfold atL; split <;> omega
          obtain ⟨hx1, hx2⟩ := hxb
          have HSL : Hid ((sortTo L (n + k)).length = n + k) := sortTo_len (by omega)
          have HNEXT : Hid (sortTo L (n + k + 1) = insR (sortTo L (n + k)) [min x (nxL (A + 1) q k), max x (nxL (A + 1) q k), 0, 0]) := by
            rw [hx]; exact sortTo_next hat1 hat2
          have HN12 : Hid (n + k ≤ 12) := by have := HLen.out; unfold Hid; omega
          have HKS : Hid (k + 1 ≤ A + 1) := hkA
          have HK12 : Hid (k ≤ 12) := by have := HA.out; unfold Hid; omega
          have HKW : Hid ((k : Int) + 1 = ((k + 1 : Nat) : Int)) := rfl
          have HM : Hid (A + 1 - (intOf (.int .i64 ((k : Int) + 1))).toNat < A + 1 - (intOf (.int .i64 (k : Int))).toNat) := by unfold Hid; rw [HKW.out]; show A + 1 - ((k + 1 : Nat) : Int).toNat < A + 1 - ((k : Int)).toNat; omega
          by_cases hkE : k = A
          · have hkE2 : A = k := hkE.symm
            have HNX : Hid (nxL (A + 1) q k = 1) := by unfold nxL; rw [Hid, if_pos (by omega)]
            have HXN : Hid (k + 1 < A + 1 → (1 : Int) = atL q (k + 1)) := fun h => by omega
            clear hkA hx hat1 hat2 hkE
            subst hkE2
            go_wp2_with fail
            refine (l02Put_any sa (n + A) sc _ (w.heap.size + 1) x (1) 0 0 wr HSL.out HR.out (by have := HN12.out; omega) (by have := ko.2.2.2.2; omega)).mono ?_
            rintro e w1 ⟨g, cap, rfl, R1, P1, hg⟩
            have hsz : wr.heap.size ≤ w1.heap.size := P1.low.size
            have hown := rows1_own HR.out
            have hko := kx.2.2.2.2
            have hL1 : Below w.heap.size w w1 := Put1.under hL P1 (by omega) (Nat.le_refl _)
            replace ko := C2.apart ko P1 (fun e => by have := (hown _ e).1; omega)
            replace kx := C2.apart kx P1 HSep.out
            have hne : Hid ((Value.slice (some ⟨g, 0, none⟩) (n + A + 1) cap).ownBlock ≠ some (w.heap.size + 2)) := by
              intro e
              rcases hg with h | h
              · exact HSep.out (h.symm.trans e)
              · have h2 : g = w.heap.size + 2 := by simpa [Value.ownBlock] using e
                have h3 : wr.heap.size ≤ g := h
                omega
            rw [← HNX.out, ← HNEXT.out] at R1
            have R2 := Lib.hid (Rows1.setFar R1 (Nat.le_refl 1) kx.2.1 hne.out (.slice (some ⟨g, 0, none⟩) (n + A + 1) cap))
            have kx2 := kx.put1 (.slice (some ⟨g, 0, none⟩) (n + A + 1) cap)
            clear P1 hown hg R1
            go_wp2_with fail
            exact ⟨⟨A + 1, 1, some ⟨g, 0, none⟩, cap, HKS.out, by rw [HKW.out], rfl, HXN.out, hL1.setCell (p := ⟨w.heap.size + 2, 1, none⟩) (by simp) _, ko.set _ _ _ (by omega), kx2, R2, hne⟩, HM.out⟩
          · have hkE' : ¬ (k : Int) = (A : Int) := by omega
            have HNX : Hid (nxL (A + 1) q k = 2 + (q : Int) + (k : Int)) := by unfold nxL; rw [Hid, if_neg (by omega)]; omega
            have HXN : Hid (k + 1 < A + 1 → 2 + (q : Int) + (k : Int) = atL q (k + 1)) := fun h => by rw [← HNX.out]; exact atL_next (by omega)
            clear hkA hx hat1 hat2 hkE
            go_wp2_with fail
            refine (l02Put_any sa (n + k) sc _ (w.heap.size + 1) x (2 + (q : Int) + (k : Int)) 0 0 wr HSL.out HR.out (by have := HN12.out; omega) (by have := ko.2.2.2.2; omega)).mono ?_
            rintro e w1 ⟨g, cap, rfl, R1, P1, hg⟩
            have hsz : wr.heap.size ≤ w1.heap.size := P1.low.size
            have hown := rows1_own HR.out
            have hko := kx.2.2.2.2
            have hL1 : Below w.heap.size w w1 := Put1.under hL P1 (by omega) (Nat.le_refl _)
            replace ko := C2.apart ko P1 (fun e => by have := (hown _ e).1; omega)
            replace kx := C2.apart kx P1 HSep.out
            have hne : Hid ((Value.slice (some ⟨g, 0, none⟩) (n + k + 1) cap).ownBlock ≠ some (w.heap.size + 2)) := by
              intro e
              rcases hg with h | h
              · exact HSep.out (h.symm.trans e)
              · have h2 : g = w.heap.size + 2 := by simpa [Value.ownBlock] using e
                have h3 : wr.heap.size ≤ g := h
                omega
            rw [← HNX.out, ← HNEXT.out] at R1
            have R2 := Lib.hid (Rows1.setFar R1 (Nat.le_refl 1) kx.2.1 hne.out (.slice (some ⟨g, 0, none⟩) (n + k + 1) cap))
            have kx2 := kx.put1 (.slice (some ⟨g, 0, none⟩) (n + k + 1) cap)
            clear P1 hown hg R1
            go_wp2_with fail
            exact ⟨⟨k + 1, 2 + (q : Int) + (k : Int), some ⟨g, 0, none⟩, cap, HKS.out, by rw [HKW.out], rfl, HXN.out, hL1.setCell (p := ⟨w.heap.size + 2, 1, none⟩) (by simp) _, ko.set _ _ _ (by omega), kx2, R2, hne⟩, HM.out⟩
        · obtain rfl : k = A + 1 := by omega
          have hkA' : ¬ ((A + 1 : Nat) : Int) < AA := by have := HAA.out; omega
          have HW : Hid ((l : Int) + 1 = ((l + 1 : Nat) : Int)) := rfl
          have HM : Hid (b - (intOf (.int .i64 ((l : Int) + 1))).toNat < b - (intOf (.int .i64 (l : Int))).toNat) := by have := HLt.out; unfold Hid; rw [HW.out]; show b - ((l + 1 : Nat) : Int).toNat < b - ((l : Int)).toNat; omega
          have HQ2 : Hid (q + A = (l + 1) * A ∧ n + (A + 1) = (l + 1) * (A + 1)) := by
            have h1 := HQ.out.1
            have h2 := HQ.out.2
            have h3 : (l + 1) * A = l * A + A := Nat.succ_mul l A
            have h4 : (l + 1) * (A + 1) = l * (A + 1) + (A + 1) := Nat.succ_mul l (A + 1)
            unfold Hid; omega
          have HL1 : Hid (l + 1 ≤ b) := HLt.out
          clear hkA hk
          go_wp2_with fail
          exact ⟨⟨l + 1, q + A, n + (A + 1), sa, sc, HL1.out, by rw [HW.out], HQ2, hL, ko, kx, HR, HSep⟩, HM.out⟩
    · have hlt' : ¬ (l : Int) < (b : Int) := by omega
      obtain rfl : l = b := by omega
      have HN : Hid (n = L.length) := HQ.out.2.trans HLe.out.symm
      have hn2 : (Value.slice sa n sc).ownBlock ≠ some w.heap.size := fun e => by have := (rows1_own HR.out _ e).1; omega
      have HF := Lib.hid ((HR.out.setFar (i := 0) (by omega) ko.2.1 hn2 (.int .i64 (2 + Q1))).setFar (i := 1) (Nat.le_refl 1) (ko.put0 (.int .i64 (2 + Q1))).2.1 hn2 (.slice sa n sc)).reads2
      clear hlt hn2
      go_wp2_with fail
      refine bodyPost_ret (v := .tuple #[.agg #[.int .i64 (2 + Q1), .slice sa n sc], .int .i64 0]) (by simp [results, Try.results22, go_sem, *]) rfl ?_
      refine ⟨sa, sc, by rw [HN.out], ?_, (hL.setCell (p := ⟨w.heap.size, 0, none⟩) (Nat.le_refl _) _).setCell (p := ⟨w.heap.size, 1, none⟩) (Nat.le_refl _) _⟩
      have h := HF.out
      rw [HN.out] at h ⊢
      exact h

theorem sLadderNetwork_any (a b : Int) (w : World) :
    Calls Try.prog 22 #[.int .i64 a, .int .i64 b] w fun e w' => ∃ sa sc, e = .returned (.tuple #[.agg #[.int .i64 (resLadderNetwork_0p a b), .slice sa (resLadderNetwork_0 a b).length sc], .int .i64 (resLadderNetwork_1 a b)]) ∧ Reads2 w' (.slice sa (resLadderNetwork_0 a b).length sc) (resLadderNetwork_0 a b) ∧ Below w.heap.size w w' := by
  by_cases h : ldOk a b
  · obtain ⟨A, rfl⟩ := Int.eq_ofNat_of_zero_le (show 0 ≤ a from Int.le_trans (by decide) h.1.1)
    obtain ⟨B, rfl⟩ := Int.eq_ofNat_of_zero_le (show 0 ≤ b from Int.le_trans (by decide) h.2.1)
    by_cases h2 : ldIn (A : Int) (B : Int)
    · obtain ⟨e1, e2, e3⟩ := ld_yes h h2
      rw [e1, e2, e3, (ld_nat A B (by have := h.1.1; omega)).1, Int.toNat_natCast, Int.toNat_natCast, sortL_len]
      exact sLadderNetwork_yes A B w h h2
    · obtain ⟨e1, e2, e3⟩ := ld_lim h h2
      rw [e1, e2, e3]
      exact (sLadderNetwork_lim A B w h h2).mono fun e w' h => ⟨none, 0, h.1, reads2_nil _, h.2⟩
  · obtain ⟨e1, e2, e3⟩ := ld_no h
    rw [e1, e2, e3]
    exact (sLadderNetwork_no a b w h).mono fun e w' h => ⟨none, 0, h.1, reads2_nil _, h.2⟩
theorem fourLadderNetwork_0 (a b : Int) : ∀ c ∈ resLadderNetwork_0 a b, c.length = 4 := by
  intro c hc
  unfold resLadderNetwork_0 at hc
  split at hc
  · exact ladCs_four _ _ c (sortL_mem hc)
  · simp at hc
theorem lenLadderNetwork_0 (a b : Int) : (resLadderNetwork_0 a b).length ≤ 100000 ∧ (resLadderNetwork_0 a b).length + sumLen (resLadderNetwork_0 a b) (resLadderNetwork_0 a b).length ≤ 1000000 ∧ ∀ i, i < (resLadderNetwork_0 a b).length → ((resLadderNetwork_0 a b).getD i []).length ≤ 1048576 := by
  refine len_four (fourLadderNetwork_0 a b) ?_
  unfold resLadderNetwork_0
  split
  · rename_i h
    obtain ⟨⟨h1, h2⟩, _, h3⟩ := h
    obtain ⟨A, rfl⟩ := Int.eq_ofNat_of_zero_le (show 0 ≤ a by omega)
    obtain ⟨B, rfl⟩ := Int.eq_ofNat_of_zero_le (show 0 ≤ b by omega)
    rw [(ld_nat A B (by omega)).2] at h3
    rw [sortL_len, ladCs_len, Int.toNat_natCast, Int.toNat_natCast]
    omega
  · simp

end Go.Proofs.Ytibfenkaoaclfaa
