/- What is live in a wiring: plain mathematics. -/
import Derived.Test.YtkdidplpnhokiaaJoW
import Derived.Test.YtkdidplpnhokiaaLe
import Derived.Test.YtkdidplpnhokiaaBitM
namespace Go.Proofs.Ytkdidplpnhokiaa
open Go.RowKit
set_option linter.unusedVariables false

/-- t lies in each set that has s and is closed under E -/
def Live (E : Nat → Nat → Prop) (s t : Nat) : Prop := ∀ C : Nat → Prop, C s → (∀ a b, E a b → (C a ↔ C b)) → C t
theorem Live.self (E : Nat → Nat → Prop) (s : Nat) : Live E s s := fun _ h _ => h
theorem Live.step {E : Nat → Nat → Prop} {s a b : Nat} (h : E a b) : Live E s a ↔ Live E s b :=
  ⟨fun ha C h1 h2 => (h2 a b h).1 (ha C h1 h2), fun hb C h1 h2 => (h2 a b h).2 (hb C h1 h2)⟩
theorem Live.congr {E E' : Nat → Nat → Prop} (h : ∀ a b, E a b ↔ E' a b) (s t : Nat) : Live E s t ↔ Live E' s t :=
  ⟨fun ha C h1 h2 => ha C h1 fun a b hab => h2 a b ((h a b).1 hab), fun ha C h1 h2 => ha C h1 fun a b hab => h2 a b ((h a b).2 hab)⟩
/-- the live ones below 22, by bits -/
noncomputable def liveN (E : Nat → Nat → Prop) (s : Nat) : Nat := setOf (fun t => bP (Live E s t)) 22
theorem liveN_lt (E : Nat → Nat → Prop) (s : Nat) : liveN E s < 4194304 := setOf_lt _ 22
theorem liveN_dig (E : Nat → Nat → Prop) (s : Nat) {t : Nat} (h : t < 22) : dig (liveN E s) t = 1 ↔ Live E s t := by
  unfold liveN
  rw [setOf_dig _ h]
  cases e : bP (Live E s t)
  · exact ⟨fun h => by simp at h, fun h => absurd (bP_iff.2 h) (by rw [e]; simp)⟩
  · exact ⟨fun _ => bP_iff.1 e, fun _ => rfl⟩
theorem liveN_congr {E E' : Nat → Nat → Prop} (h : ∀ a b, E a b ↔ E' a b) (s : Nat) : liveN E s = liveN E' s := by
  unfold liveN
  congr 1
  funext t
  have := Live.congr h s t
  unfold bP
  congr 1
  exact propext this
theorem liveN_eq {E : Nat → Nat → Prop} {s S : Nat} (hS : S < 4194304) (h : ∀ t, t < 22 → (dig S t = 1 ↔ Live E s t)) : liveN E s = S := by
  refine dig_ext (k := 22) (liveN_lt E s) hS fun t ht => ?_
  have h1 := h t ht
  have h2 := liveN_dig E s ht
  have l1 := dig_lt S t
  have l2 := dig_lt (liveN E s) t
  by_cases e : Live E s t
  · have := h1.2 e; have := h2.2 e; omega
  · have n1 : ¬ dig S t = 1 := fun x => e (h1.1 x)
    have n2 : ¬ dig (liveN E s) t = 1 := fun x => e (h2.1 x)
    omega

/-! ### the iteration's set -/
/-- what contacts that are closed join -/
def conE (L : List (List Int)) (cl : Nat → Bool) (a b : Nat) : Prop := ∃ i, i < L.length ∧ cl i = true ∧ ((L.getD i []).getD 0 0).toNat = a ∧ ((L.getD i []).getD 1 0).toNat = b

theorem pass_sub {L : List (List Int)} {cl : Nat → Bool} {C : Nat → Prop} (hC : ∀ a b, conE L cl a b → (C a ↔ C b)) {S : Nat} (hS : ∀ t, S.testBit t = true → C t) {k : Nat} (hk : k ≤ L.length) :
    ∀ t, (JW.passJ L cl S k).testBit t = true → C t := by
  induction k with
  | zero => exact hS
  | succ k ih =>
    intro t ht
    have ih := ih (by omega)
    change (JW.stepJ L cl (JW.passJ L cl S k) k).testBit t = true at ht
    generalize JW.passJ L cl S k = Q at *
    unfold JW.stepJ at ht
    split at ht
    · rename_i h
      obtain ⟨hc, hne⟩ := h
      have hE : conE L cl ((L.getD k []).getD 0 0).toNat ((L.getD k []).getD 1 0).toNat := ⟨k, by omega, hc, rfl, rfl⟩
      have hboth : C ((L.getD k []).getD 0 0).toNat ∧ C ((L.getD k []).getD 1 0).toNat := by
        by_cases ha : Q.testBit ((L.getD k []).getD 0 0).toNat = true
        · exact ⟨ih _ ha, (hC _ _ hE).1 (ih _ ha)⟩
        · by_cases hb : Q.testBit ((L.getD k []).getD 1 0).toNat = true
          · exact ⟨(hC _ _ hE).2 (ih _ hb), ih _ hb⟩
          · refine absurd ?_ hne
            unfold JW.pairN
            generalize ((L.getD k []).getD 0 0).toNat = x at *
            generalize ((L.getD k []).getD 1 0).toNat = y at *
            exact JW.pair_zero (by rw [dig_testBit]; simp only [Bool.not_eq_true] at ha; rw [ha]; rfl) (by rw [dig_testBit]; simp only [Bool.not_eq_true] at hb; rw [hb]; rfl)
      rw [Nat.testBit_or, Bool.or_eq_true] at ht
      rcases ht with ht | ht
      · exact ih t ht
      · unfold JW.pairN at ht
        rw [Nat.testBit_or, Bool.or_eq_true, JW.pow_testBit, JW.pow_testBit, decide_eq_true_iff, decide_eq_true_iff] at ht
        rcases ht with rfl | rfl
        · exact hboth.1
        · exact hboth.2
    · exact ih t ht
theorem step_bits (L : List (List Int)) (cl : Nat → Bool) (S i : Nat) {t : Nat} (h : S.testBit t = true) : (JW.stepJ L cl S i).testBit t = true := by
  unfold JW.stepJ; split
  · rw [Nat.testBit_or, h]; rfl
  · exact h
theorem pass_bits (L : List (List Int)) (cl : Nat → Bool) (S k : Nat) {t : Nat} (h : S.testBit t = true) : (JW.passJ L cl S k).testBit t = true := by
  induction k with
  | zero => exact h
  | succ k ih => exact step_bits _ _ _ _ ih
theorem iter_sub {L : List (List Int)} {cl : Nat → Bool} {C : Nat → Prop} (hC : ∀ a b, conE L cl a b → (C a ↔ C b)) {s : Nat} (hs : ∀ t, s.testBit t = true → C t) (m : Nat) :
    ∀ t, (JW.iter (fun S => JW.passJ L cl S L.length) s m).testBit t = true → C t := by
  induction m with
  | zero => exact hs
  | succ m ih => exact pass_sub hC ih (Nat.le_refl _)
theorem iter_bits (L : List (List Int)) (cl : Nat → Bool) (s m : Nat) {t : Nat} (h : s.testBit t = true) : (JW.iter (fun S => JW.passJ L cl S L.length) s m).testBit t = true := by
  induction m with
  | zero => exact h
  | succ m ih => exact pass_bits _ _ _ _ ih
/-- a set that a whole pass leaves is closed -/
theorem pass_fix {L : List (List Int)} {cl : Nat → Bool} {S : Nat} (h : JW.passJ L cl S L.length = S) {k : Nat} (hk : k ≤ L.length) : JW.passJ L cl S k = S := by
  have up : ∀ m k, JW.passJ L cl S k ≤ JW.passJ L cl S (k + m) := by
    intro m
    induction m with
    | zero => intro k; exact Nat.le_refl _
    | succ m ih => intro k; exact Nat.le_trans (ih k) (JW.stepJ_ge _ _ _ _)
  have h1 := JW.passJ_ge L cl S k
  have h2 := up (L.length - k) k
  rw [show k + (L.length - k) = L.length by omega, h] at h2
  omega
theorem fix_closed {L : List (List Int)} {cl : Nat → Bool} {S : Nat} (h : JW.passJ L cl S L.length = S) : ∀ a b, conE L cl a b → (S.testBit a = true ↔ S.testBit b = true) := by
  rintro a b ⟨i, hi, hc, rfl, rfl⟩
  have h1 := pass_fix h (k := i) (by omega)
  have h2 := pass_fix h (k := i + 1) (by omega)
  change JW.stepJ L cl (JW.passJ L cl S i) i = S at h2
  rw [h1] at h2
  have key : S &&& JW.pairN L i ≠ 0 → S.testBit ((L.getD i []).getD 0 0).toNat = true ∧ S.testBit ((L.getD i []).getD 1 0).toNat = true := by
    intro hne
    rw [JW.stepJ_hit hc hne] at h2
    rw [← h2]
    unfold JW.pairN
    simp [Nat.testBit_or, JW.pow_testBit]
  have ne : ∀ t, S.testBit t = true → (JW.pairN L i).testBit t = true → S &&& JW.pairN L i ≠ 0 := by
    intro t h3 h4 e
    have := congrArg (fun x => x.testBit t) e
    simp [Nat.testBit_and, h3, h4] at this
  constructor
  · intro ha
    exact (key (ne _ ha (by unfold JW.pairN; simp [Nat.testBit_or, JW.pow_testBit]))).2
  · intro hb
    exact (key (ne _ hb (by unfold JW.pairN; simp [Nat.testBit_or, JW.pow_testBit]))).1
theorem iter_grow {F : Nat → Nat} (hF : ∀ S, S ≤ F S) (s m : Nat) : m ≤ JW.iter F s m ∨ F (JW.iter F s m) = JW.iter F s m := by
  induction m with
  | zero => exact .inl (Nat.zero_le _)
  | succ m ih =>
    rcases ih with h | h
    · by_cases e : F (JW.iter F s m) = JW.iter F s m
      · right
        show F (F (JW.iter F s m)) = F (JW.iter F s m)
        rw [e, e]
      · left
        show m + 1 ≤ F (JW.iter F s m)
        have := hF (JW.iter F s m)
        omega
    · right
      show F (F (JW.iter F s m)) = F (JW.iter F s m)
      rw [h, h]
theorem joinS_fix {L : List (List Int)} (h : JW.Pts22 L) (cl : Nat → Bool) {p : Nat} (hp : p < 22) : JW.passJ L cl (JW.joinS L cl p) L.length = JW.joinS L cl p := by
  have hlt := JW.joinS_lt h cl hp
  unfold JW.joinS at *
  rcases iter_grow (F := fun S => JW.passJ L cl S L.length) (fun S => JW.passJ_ge _ _ _ _) (2 ^ p) 4194304 with h1 | h1
  · omega
  · exact h1
theorem joinS_live {L : List (List Int)} (h : JW.Pts22 L) (cl : Nat → Bool) {p : Nat} (hp : p < 22) (t : Nat) : (JW.joinS L cl p).testBit t = true ↔ Live (conE L cl) p t := by
  constructor
  · intro ht C h1 h2
    unfold JW.joinS at ht
    refine iter_sub h2 (s := 2 ^ p) (fun t ht => ?_) _ t ht
    rw [JW.pow_testBit, decide_eq_true_iff] at ht
    rw [← ht]; exact h1
  · intro hl
    refine hl (fun t => (JW.joinS L cl p).testBit t = true) ?_ (fix_closed (joinS_fix h cl hp))
    unfold JW.joinS
    exact iter_bits _ _ _ _ (by rw [JW.pow_testBit]; simp)
theorem joinS_eq {L : List (List Int)} (h : JW.Pts22 L) (cl : Nat → Bool) {p : Nat} (hp : p < 22) : JW.joinS L cl p = liveN (conE L cl) p := by
  refine (liveN_eq (JW.joinS_lt h cl hp) fun t ht => ?_).symm
  rw [← joinS_live h cl hp t, dig_testBit]
  cases (JW.joinS L cl p).testBit t <;> simp

end Go.Proofs.Ytkdidplpnhokiaa
