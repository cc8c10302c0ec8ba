/- Texts cut at a byte, numbers in decimal: plain mathematics. -/
import Derived.Test.YtkdidplpnhokiaaMath
namespace Go.Proofs.Ytkdidplpnhokiaa
open Go.RowKit
set_option linter.unusedVariables false

/-- the byte k of a text -/
def byteAt (s : ByteArray) (k : Nat) : Int := if h : k < s.size then (s[k].toNat : Int) else 0
theorem byteAt_eq (s : ByteArray) (k : Nat) (h : k < s.size) : byteAt s k = (s[k].toNat : Int) := by unfold byteAt; rw [dif_pos h]
theorem byteAt_bd (s : ByteArray) (k : Nat) : 0 ≤ byteAt s k ∧ byteAt s k < 256 := by
  unfold byteAt; split
  · have := UInt8.toNat_lt s[k]; omega
  · omega
/-- the parts so far, and where the next one begins -/
def cutTo (s : ByteArray) (c : Int) : Nat → List ByteArray × Nat
  | 0 => ([], 0)
  | k + 1 => if byteAt s k = c then ((cutTo s c k).1 ++ [s.extract (cutTo s c k).2 k], k + 1) else cutTo s c k
theorem cutTo_le (s : ByteArray) (c : Int) (k : Nat) : (cutTo s c k).2 ≤ k ∧ (cutTo s c k).1.length ≤ k := by
  induction k with
  | zero => simp [cutTo]
  | succ k ih =>
    simp only [cutTo]; split
    · simp; omega
    · omega
/-- the parts of a text -/
def parts (s : ByteArray) (c : Int) : List ByteArray := (cutTo s c s.size).1 ++ [s.extract (cutTo s c s.size).2 s.size]
theorem cutTo_none {s : ByteArray} {c : Int} {k : Nat} (h : ∀ i, i < k → byteAt s i ≠ c) : cutTo s c k = ([], 0) := by
  induction k with
  | zero => rfl
  | succ k ih => simp only [cutTo]; rw [if_neg (h k (by omega)), ih fun i hi => h i (by omega)]
theorem cutTo_one {s : ByteArray} {c : Int} {j k : Nat} (hj : j < k) (hc : byteAt s j = c) (h : ∀ i, i < k → i ≠ j → byteAt s i ≠ c) : cutTo s c k = ([s.extract 0 j], j + 1) := by
  induction k with
  | zero => omega
  | succ k ih =>
    simp only [cutTo]
    by_cases e : k = j
    · subst e
      rw [if_pos hc, cutTo_none fun i hi => h i (by omega) (by omega)]
      rfl
    · rw [if_neg (h k (by omega) e)]
      exact ih (by omega) fun i hi => h i (by omega)
/-- two parts: the byte stands in one place alone -/
theorem parts_two {s : ByteArray} {c : Int} (h : (parts s c).length = 2) : ∃ j, j < s.size ∧ byteAt s j = c ∧ (∀ i, i < s.size → i ≠ j → byteAt s i ≠ c) ∧ parts s c = [s.extract 0 j, s.extract (j + 1) s.size] := by
  have key : ∀ k, (cutTo s c k).1.length = 0 → ∀ i, i < k → byteAt s i ≠ c := by
    intro k
    induction k with
    | zero => intro _ i hi; omega
    | succ k ih =>
      intro h i hi
      simp only [cutTo] at h
      split at h
      · simp at h
      · rename_i hne
        rcases Nat.lt_or_ge i k with h1 | h1
        · exact ih h i h1
        · have : i = k := by omega
          subst this; exact hne
  have main : ∀ k, (cutTo s c k).1.length = 1 → ∃ j, j < k ∧ byteAt s j = c ∧ ∀ i, i < k → i ≠ j → byteAt s i ≠ c := by
    intro k
    induction k with
    | zero => intro h; simp [cutTo] at h
    | succ k ih =>
      intro h
      simp only [cutTo] at h
      split at h
      · rename_i he
        refine ⟨k, by omega, he, fun i hi hne => key k ?_ i (by omega)⟩
        simpa using h
      · rename_i hne
        obtain ⟨j, h1, h2, h3⟩ := ih h
        refine ⟨j, by omega, h2, fun i hi hij => ?_⟩
        rcases Nat.lt_or_ge i k with h4 | h4
        · exact h3 i h4 hij
        · have : i = k := by omega
          subst this; exact hne
  have h1 : (cutTo s c s.size).1.length = 1 := by unfold parts at h; simpa using h
  obtain ⟨j, hj, hc, hn⟩ := main _ h1
  refine ⟨j, hj, hc, hn, ?_⟩
  unfold parts
  rw [cutTo_one hj hc hn]
  rfl
theorem extract_size (s : ByteArray) (a b : Nat) (h : b ≤ s.size) : (s.extract a b).size = b - a := by simp [ByteArray.size_extract]; omega
theorem byteAt_extract (s : ByteArray) (a b k : Nat) (hb : b ≤ s.size) (hk : k < b - a) : byteAt (s.extract a b) k = byteAt s (a + k) := by
  have h1 : k < (s.extract a b).size := by rw [extract_size _ _ _ hb]; exact hk
  rw [byteAt_eq _ _ h1, byteAt_eq s (a + k) (by omega)]
  simp [ByteArray.getElem_extract]

/-- a number of at least 0 in decimal, without leading zeros, of at most nine digits; else -1 -/
def decTo (s : ByteArray) : Nat → Int
  | 0 => 0
  | k + 1 => decTo s k * 10 + (byteAt s k - 48)
def isDec (s : ByteArray) : Prop := (s.size ≠ 0 ∧ s.size ≤ 9 ∧ ¬ (1 < s.size ∧ byteAt s 0 = 48)) ∧ ∀ i, i < s.size → 48 ≤ byteAt s i ∧ byteAt s i ≤ 57
instance (s : ByteArray) : Decidable (isDec s) := by unfold isDec; infer_instance
def decN (s : ByteArray) : Int := if isDec s then decTo s s.size else -1
theorem decTo_bd {s : ByteArray} {k : Nat} (h : ∀ i, i < k → 48 ≤ byteAt s i ∧ byteAt s i ≤ 57) : 0 ≤ decTo s k ∧ decTo s k < 10 ^ k := by
  induction k with
  | zero => simp [decTo]
  | succ k ih =>
    have h1 := ih fun i hi => h i (by omega)
    have h2 := h k (by omega)
    simp only [decTo, Int.pow_succ]
    omega
/-- one digit is told by one byte alone -/
theorem decN_small {s : ByteArray} (h1 : 1 ≤ decN s) (h9 : decN s ≤ 9) : s.size = 1 ∧ byteAt s 0 = 48 + decN s := by
  unfold decN at *
  split at h1
  · rename_i hd
    rw [if_pos hd] at *
    obtain ⟨⟨h0, hle, hlead⟩, hdig⟩ := hd
    have big : ∀ k, 2 ≤ k → k ≤ s.size → 10 ≤ decTo s k := by
      intro k
      induction k with
      | zero => omega
      | succ k ih =>
        intro h2 hk
        have hb := decTo_bd (s := s) (k := k) fun i hi => hdig i (by omega)
        have hk' := hdig k (by omega)
        rcases Nat.lt_or_ge k 2 with hlt | hge
        · have e : k = 1 := by omega
          subst e
          have h00 := hdig 0 (by omega)
          have hne : byteAt s 0 ≠ 48 := fun e => hlead ⟨by omega, e⟩
          simp only [decTo]
          omega
        · have := ih hge (by omega)
          simp only [decTo]
          omega
    have hs : s.size = 1 := by
      rcases Nat.lt_or_ge s.size 2 with h | h
      · omega
      · have := big s.size h (Nat.le_refl _); omega
    refine ⟨hs, ?_⟩
    rw [hs]
    simp [decTo]; omega
  · omega
theorem decN_one {s : ByteArray} (hs : s.size = 1) (h : 48 ≤ byteAt s 0 ∧ byteAt s 0 ≤ 57) : decN s = byteAt s 0 - 48 := by
  unfold decN
  have hd : isDec s := by
    refine ⟨⟨by omega, by omega, by omega⟩, fun i hi => ?_⟩
    have : i = 0 := by omega
    subst this; exact h
  rw [if_pos hd, hs]
  simp [decTo]

end Go.Proofs.Ytkdidplpnhokiaa
