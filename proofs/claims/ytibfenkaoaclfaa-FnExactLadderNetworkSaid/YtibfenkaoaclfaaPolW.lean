/- Powers of polynomials in memory: the program's machine, and the model's. -/
import Derived.Test.YtibfenkaoaclfaaPolT
import Derived.Test.YtibfenkaoaclfaaJumps
import Derived.WalkMore
namespace Go.Proofs.Ytibfenkaoaclfaa
open Go.RowKit
set_option linter.unusedVariables false

/-- the frame at a label -/
def PwAct (vq vp : Value) (k : Nat) (a : Act) : Prop := ∃ u2 u3 u6 u7 u8 u9 u10 u11 u12 u13 u14 u15 u16 u17 u18 u19 u20 u21 u22 : Value, a = { tmps := #[vq, .int .i64 (k : Int), u2, u3, .slice none 0 0, vp, u6, u7, u8, u9, u10, u11, u12, u13, u14, u15, u16, u17, u18, u19, u20, u21, u22], defers := [] }
/-- what holds at a label -/
def PwJ (w : World) (T : List Int) (l : Nat) (a : Act) (w' : World) : Prop :=
  ∃ (p q : List Int) (k : Nat) (vq vp : Value), PwAct vq vp k a ∧ Reads w' vq (W q) ∧ Owns w' w.heap.size vp (W p) ∧ 1 ≤ p.length ∧ 1 ≤ q.length ∧ Hid (timesL p (powL q k) = T) ∧ Below w.heap.size w w' ∧ k ≤ 1000 ∧ (l = 0 ∨ (l = 1 ∧ 2 ≤ k ∧ k % 2 = 0))
def PwMu (l : Nat) (a : Act) (_ : World) : Nat := 2 * (intOf (a.tmps.getD 1 undef)).toNat - l
theorem pow_len {p q T : List Int} {k : Nat} (hp : 1 ≤ p.length) (hq : 1 ≤ q.length) (h : timesL p (powL q k) = T) : p.length + (q.length - 1) * k = T.length := by
  rw [← h, timesL_len, powL_len q hq]; omega
theorem pow_odd {p q T : List Int} {k : Nat} (hp : 1 ≤ p.length) (hq : 1 ≤ q.length) (h : timesL p (powL q (k + 1)) = T) : timesL (timesL p q) (powL q k) = T := by
  rw [timesL_assoc p q (powL q k) hp hq (powL_pos q hq k), powL_comm q hq k, h]
theorem pow_even {p q T : List Int} {h : Nat} (hq : 1 ≤ q.length) (hT : timesL p (powL q (2 * h)) = T) : timesL p (powL (timesL q q) h) = T := by
  rw [powL_sq q hq, hT]
theorem pow_bds {p q T : List Int} {k : Nat} (hp : 1 ≤ p.length) (hq : 1 ≤ q.length) (hk : 1 ≤ k) (h : timesL p (powL q k) = T) (hT : T.length ≤ 10000) : p.length ≤ 10000 ∧ q.length ≤ 10000 := by
  have := pow_len hp hq h
  have h2 : (q.length - 1) * 1 ≤ (q.length - 1) * k := Nat.mul_le_mul_left _ hk
  omega
theorem owns_one (w : World) (t : TypeId) (c : Int) (h : wrap64 c = c) : Owns (w.alloc (.cells #[.int .i64 c] 2)) w.heap.size (.slice (some ⟨w.heap.size, 0, none⟩) 1 1) (W [c]) := by
  have e : (W [c]).map (Value.int .i64) = [.int .i64 c] := by simp [W, h]
  unfold Owns
  rw [e]
  exact ⟨by simp [W_len], .inr ⟨w.heap.size, 1, #[.int .i64 c], rfl, Nat.le_refl _, heap_alloc_new w _, by simp [W_len], by decide, rfl, by simp [W_len]⟩⟩

set_option maxRecDepth 100000 in
set_option maxHeartbeats 2000000 in
theorem power_any (v : Value) (F : List Int) (K : Nat) (w : World) (ha : Reads w v (W F)) (hF : 1 ≤ F.length) (hK : K ≤ 1000) (hT : (powL F K).length ≤ 10000) :
    Calls Try.prog 42 #[v, .int .i64 (K : Int)] w fun e w' => ∃ u, e = .returned u ∧ Owns w' w.heap.size u (W (powL F K)) ∧ Below w.heap.size w w' := by
  have HA := Lib.hid ha
  obtain ⟨T, hTT⟩ : ∃ T, powL F K = T := ⟨_, rfl⟩
  have HT0 : Hid (timesL [1] (powL F K) = T) := by rw [Hid, timesL_one, hTT]
  rw [hTT] at hT ⊢
  clear hTT
  have HTL := Lib.hid hT
  clear ha hT
  go_enter Try.func42, Try.ntmps42
  go_wp2_with fail
  refine wp_scope_two (by rfl) (by rfl) (PwJ w T) PwMu (fun l a w h => by obtain ⟨_, _, _, _, _, _, _, _, _, _, _, _, _, h⟩ := h; omega) ?_ ?_ ?_
  · intro M a w' hJ hM
    obtain ⟨p, q, k, vq, vp, ⟨u2, u3, u6, u7, u8, u9, u10, u11, u12, u13, u14, u15, u16, u17, u18, u19, u20, u21, u22, rfl⟩, hq, hp, p1, q1, HT, hL, hk, hl⟩ := hJ
    have HM : Hid (2 * k - 1 ≤ M) := hM
    obtain ⟨hk2, hke⟩ : 2 ≤ k ∧ k % 2 = 0 := by omega
    have hb := pow_bds p1 q1 (by omega) HT.out HTL.out
    have hdiv : (k : Int) / 2 = ((k / 2 : Nat) : Int) := by omega
    have HTn : Hid (timesL p (powL (timesL q q) (k / 2)) = T) := pow_even q1 (by rw [show 2 * (k / 2) = k by omega]; exact HT.out)
    have hk0 : (0 : Int) ≤ (k : Int) := by omega
    have HD := Lib.hid hdiv
    clear hM hl hdiv HT hke
    have hHQ := Lib.hid hq
    go_wp2_with fail
    refine (times_any vq vq q q _ hHQ.out hHQ.out q1 hb.2 q1 hb.2).mono ?_
    rintro e w2 ⟨u, rfl, o2, hb2⟩
    have hL2 := chain (B := w.heap.size) (a := w) hL (Nat.le_refl _) hb2
    have hp2 := ownsKeepAt hb2 hp
    have hq2 := o2.reads
    have HQ2 := Lib.hid hq2
    have HP2 := Lib.hid hp2
    clear hq hp o2 hq2 hp2 hb2
    go_wp2_with fail
    refine wp_goto ?_
    show PwJ w T 0 _ _ ∧ _ < M
    refine ⟨⟨p, timesL q q, k / 2, u, vp, ?_, HQ2.out, HP2.out, p1, by rw [timesL_len]; omega, HTn, hL2, by omega, .inl rfl⟩, ?_⟩
    · unfold PwAct
      rw [← HD.out]
      (repeat (apply Exists.intro))
      rfl
    · show 2 * ((k : Int) / 2).toNat - 0 < M
      have := HM.out
      omega
  · intro HEnd M a w' hJ hM
    obtain ⟨p, q, k, vq, vp, ⟨u2, u3, u6, u7, u8, u9, u10, u11, u12, u13, u14, u15, u16, u17, u18, u19, u20, u21, u22, rfl⟩, hq, hp, p1, q1, HT, hL, hk, hl⟩ := hJ
    have HM : Hid (2 * k ≤ M) := hM
    clear hM hl HEnd
    rcases Nat.eq_zero_or_pos k with rfl | hpos
    · have HE : Hid (p = T) := by have := HT.out; rw [powL, timesL_one_right] at this; exact this
      clear HT
      go_wp2_with fail
      simp only [jumpN]
      go_ret
      exact ⟨vp, rfl, by rw [← HE.out]; exact hp, hL⟩
    · have hk0 : (0 : Int) ≤ (k : Int) := by omega
      have hne : ((k : Int) == 0) = false := by simp; omega
      by_cases hev : k % 2 = 0
      · have hmod : ((k : Int) % 2 == 0) = true := by simp; omega
        go_wp2_with fail
        refine wp_goto ?_
        show PwJ w T 1 _ _ ∧ _ < M
        refine ⟨⟨p, q, k, vq, vp, ?_, hq, hp, p1, q1, HT, hL, hk, .inr ⟨rfl, by omega, hev⟩⟩, ?_⟩
        · unfold PwAct
          (repeat (apply Exists.intro))
          rfl
        · show 2 * ((k : Int)).toNat - 1 < M
          have := HM.out
          omega
      · have hmod : ((k : Int) % 2 == 0) = false := by simp; omega
        have hb := pow_bds p1 q1 hpos HT.out HTL.out
        have HTn : Hid (timesL (timesL p q) (powL q (k - 1)) = T) := pow_odd p1 q1 (by rw [show k - 1 + 1 = k by omega]; exact HT.out)
        have HS : Hid ((k : Int) - 1 = ((k - 1 : Nat) : Int)) := by unfold Hid; omega
        have hHQ := Lib.hid hq
        have hHP := Lib.hid hp
        clear HT hev
        go_wp2_with fail
        refine (times_any vp vq p q _ hHP.out.reads hHQ.out p1 hb.1 q1 hb.2).mono ?_
        rintro e w2 ⟨u, rfl, o2, hb2⟩
        have hL2 := chain (B := w.heap.size) (a := w) hL (Nat.le_refl _) hb2
        have HQ2 := Lib.hid (hHQ.out.keep hb2)
        have HP2 := Lib.hid (o2.mono hL.size)
        clear hq hp o2 hb2
        go_wp2_with fail
        refine wp_goto ?_
        show PwJ w T 0 _ _ ∧ _ < M
        refine ⟨⟨timesL p q, q, k - 1, vq, u, ?_, HQ2.out, HP2.out, by rw [timesL_len]; omega, q1, HTn, hL2, by omega, .inl rfl⟩, ?_⟩
        · unfold PwAct
          rw [← HS.out]
          (repeat (apply Exists.intro))
          rfl
        · show 2 * ((k : Int) - 1).toNat - 0 < M
          have := HM.out
          omega
  · intro HBeg
    refine ⟨2 * K, ?_⟩
    have o1 := owns_one w 2 1 (by unfold wrap64; rfl)
    go_wp2_with fail
    refine wp_label ?_
    refine ‹∀ a w, Code.wp _ _ _ a w → _› _ _ (HBeg _ _ _ ?_ ?_)
    · refine ⟨[1], F, K, v, .slice (some ⟨w.heap.size, 0, none⟩) 1 1, ?_, HA.out.keep (by go_grown), o1, by simp, hF, HT0, by go_grown, hK, .inl rfl⟩
      unfold PwAct
      (repeat (apply Exists.intro))
      rfl
    · exact Nat.le_refl _

end Go.Proofs.Ytibfenkaoaclfaa
