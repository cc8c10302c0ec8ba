/- All patterns in order, and the prime ones (plain mathematics). -/
import Derived.Test.YtohmhiodmaahfaaDoorPatM
namespace Go.Proofs.YtohmhiodmaahfaaDoor
open Go.RowKit
set_option linter.unusedVariables false

/-- each text of one list with each of another behind it -/
def joinT (l o : List ByteArray) : List ByteArray := l.flatMap fun s => o.map fun t => s ++ t
theorem joinT_take {l o : List ByteArray} {k : Nat} (h : k < l.length) : joinT (l.take (k + 1)) o = joinT (l.take k) o ++ o.map (fun t => l.getD k ByteArray.empty ++ t) := by
  unfold joinT
  rw [List.take_add_one, List.getElem?_eq_getElem h, List.flatMap_append, List.getD_eq_getElem?_getD, List.getElem?_eq_getElem h]
  simp
theorem joinT_len (l o : List ByteArray) : (joinT l o).length = l.length * o.length := by
  induction l with
  | nil => simp [joinT]
  | cons a l ih =>
    have : joinT (a :: l) o = o.map (fun t => a ++ t) ++ joinT l o := rfl
    rw [this, List.length_append, List.length_map, ih, List.length_cons, Nat.succ_mul]; omega
def t45 : ByteArray := ⟨#[45]⟩
def t48 : ByteArray := ⟨#[48]⟩
def t49 : ByteArray := ⟨#[49]⟩
/-- all patterns for n inputs, in order -/
def allP : Nat → List ByteArray
  | 0 => [ByteArray.empty]
  | n + 1 => joinT (allP n) [t45, t48, t49]
theorem allP_len (n : Nat) : (allP n).length = 3 ^ n := by
  induction n with
  | zero => rfl
  | succ n ih => show (joinT (allP n) [t45, t48, t49]).length = _; rw [joinT_len, ih, Nat.pow_succ]; rfl
theorem allP_mem (n : Nat) : ∀ s ∈ allP n, s.size = n ∧ allIn s [45, 48, 49] = true := by
  induction n with
  | zero => intro s hs; simp [allP] at hs; subst hs; exact ⟨rfl, rfl⟩
  | succ n ih =>
    intro s hs
    have hs' : s ∈ (allP n).flatMap fun s => [t45, t48, t49].map fun t => s ++ t := hs
    obtain ⟨a, ha, h⟩ := List.mem_flatMap.1 hs'
    obtain ⟨t, ht, rfl⟩ := List.mem_map.1 h
    have hi := ih a ha
    have h2 : t.size = 1 ∧ allIn t [45, 48, 49] = true := by
      simp only [List.mem_cons, List.not_mem_nil, or_false] at ht
      rcases ht with rfl | rfl | rfl <;> exact ⟨rfl, by decide⟩
    refine ⟨by rw [ByteArray.size_append]; omega, ?_⟩
    unfold allIn at *
    rw [show (a ++ t).data.toList = a.data.toList ++ t.data.toList by simp, List.all_append, hi.2, h2.2]; rfl
/-- a pattern with one more sign that can be both -/
def wide (f : Nat → Int) (i : Nat) : Nat → Int := fun j => if j = i then 45 else f j
/-- is it a prime pattern? -/
def primF (v : Int) (f : Nat → Int) (k : Nat) : Bool := impF v f k && (List.range 5).all fun i => decide (f i = 45) || !impF v (wide f i) k
theorem primF_iff {v : Int} {f : Nat → Int} {k : Nat} : primF v f k = true ↔ impF v f k = true ∧ ∀ i, i < 5 → f i = 45 ∨ impF v (wide f i) k = false := by
  unfold primF
  rw [Bool.and_eq_true, List.all_eq_true]
  constructor
  · rintro ⟨h1, h2⟩
    refine ⟨h1, fun i hi => ?_⟩
    have := h2 i (List.mem_range.2 hi)
    simpa using this
  · rintro ⟨h1, h2⟩
    refine ⟨h1, fun i hi => ?_⟩
    have := h2 i (List.mem_range.1 hi)
    simpa using this
theorem primF_no {v : Int} {f : Nat → Int} {k i : Nat} (hi : i < 5) (h1 : f i ≠ 45) (h2 : impF v (wide f i) k = true) : primF v f k = false := by
  cases h : primF v f k
  · rfl
  · rcases (primF_iff.1 h).2 i hi with h | h
    · exact absurd h h1
    · rw [h] at h2; cases h2
theorem impF_congr {v : Int} {f g : Nat → Int} (h : ∀ i, i < 5 → f i = g i) (k : Nat) : impF v f k = impF v g k := by
  rw [Bool.eq_iff_iff, impF_iff, impF_iff]
  constructor
  · intro hh r hr hc; exact hh r hr (by rw [covF_congr h]; exact hc)
  · intro hh r hr hc; exact hh r hr (by rw [← covF_congr h]; exact hc)
/-- the text with a sign - in the place of one -/
theorem sgn_dash {s : ByteArray} {i : Nat} (hi : i < s.size) (j : Nat) : sgn (s.extract 0 i ++ t45 ++ s.extract (i + 1) s.size) j = wide (sgn s) i j := by
  have h1 : (s.extract 0 i).size = i := by simp; omega
  have h3 : t45.size = 1 := rfl
  have h2 : (s.extract 0 i ++ t45).size = i + 1 := by rw [ByteArray.size_append]; omega
  have h4 : (s.extract (i + 1) s.size).size = s.size - (i + 1) := by simp
  have hz : (s.extract 0 i ++ t45 ++ s.extract (i + 1) s.size).size = s.size := by rw [ByteArray.size_append]; omega
  unfold wide sgn
  rw [hz]
  by_cases hj : j < s.size
  · rw [if_pos hj, if_pos hj, byteAt_eq _ _ (by omega)]
    by_cases e : j = i
    · subst e
      rw [if_pos rfl, ByteArray.getElem_append_left (by omega), ByteArray.getElem_append_right (by omega)]
      have : ∀ q (hq : q < t45.size), q = 0 → ((t45[q]).toNat : Int) = 45 := by intro q hq e; subst e; rfl
      exact this _ _ (by omega)
    · rw [if_neg e]
      by_cases hlt : j < i
      · rw [ByteArray.getElem_append_left (by omega), ByteArray.getElem_append_left (by omega)]
        have := byteAt_extract s 0 i j (by omega) (by omega)
        rw [Nat.zero_add, byteAt_eq _ _ (by omega)] at this
        exact this
      · rw [ByteArray.getElem_append_right (by omega)]
        have := byteAt_extract s (i + 1) s.size (j - (i + 1)) (Nat.le_refl _) (by omega)
        rw [byteAt_eq _ _ (by omega)] at this
        simp only [h2]
        rw [show i + 1 + (j - (i + 1)) = j by omega] at this
        exact this
  · rw [if_neg hj, if_neg hj, if_neg (show ¬ j = i by omega)]
/-- the prime patterns of a table, in order -/
def primesL (v : Int) (n : Nat) : List ByteArray := (allP n).filter fun s => primF v (sgn s) (2 ^ n)
/-- .. those among the first k -/
def primesTo (v : Int) (n k : Nat) : List ByteArray := ((allP n).take k).filter fun s => primF v (sgn s) (2 ^ n)
theorem primesTo_hit {v : Int} {n k : Nat} (hk : k < (allP n).length) (h : primF v (sgn ((allP n).getD k ByteArray.empty)) (2 ^ n) = true) : primesTo v n (k + 1) = primesTo v n k ++ [(allP n).getD k ByteArray.empty] := by
  unfold primesTo
  rw [List.getD_eq_getElem?_getD, List.getElem?_eq_getElem hk] at h ⊢
  rw [List.take_add_one, List.getElem?_eq_getElem hk, List.filter_append]
  simp only [Option.getD_some] at h ⊢
  simp [h]
theorem primesTo_miss {v : Int} {n k : Nat} (hk : k < (allP n).length) (h : primF v (sgn ((allP n).getD k ByteArray.empty)) (2 ^ n) = false) : primesTo v n (k + 1) = primesTo v n k := by
  unfold primesTo
  rw [List.getD_eq_getElem?_getD, List.getElem?_eq_getElem hk] at h
  rw [List.take_add_one, List.getElem?_eq_getElem hk, List.filter_append]
  simp only [Option.getD_some] at h
  simp [h]
theorem primesTo_all (v : Int) (n : Nat) : primesTo v n (allP n).length = primesL v n := by unfold primesTo primesL; rw [List.take_length]
theorem primesTo_len (v : Int) (n k : Nat) : (primesTo v n k).length ≤ k := by
  unfold primesTo
  have := List.length_filter_le (fun s => primF v (sgn s) (2 ^ n)) ((allP n).take k)
  rw [List.length_take] at this
  omega
theorem primesL_mem {v : Int} {n : Nat} : ∀ s ∈ primesL v n, s.size = n ∧ allIn s [45, 48, 49] = true := fun s hs => allP_mem n s (List.mem_filter.1 hs).1
theorem pow3 {n : Nat} (h : n ≤ 5) : 3 ^ n ≤ 243 := Nat.pow_le_pow_right (n := 3) (by decide) h
theorem primesL_len (v : Int) {n : Nat} (h : n ≤ 5) : (primesL v n).length ≤ 243 := by
  rw [← primesTo_all]
  have h1 := primesTo_len v n (allP n).length
  have h2 := allP_len n
  have := pow3 h
  omega

end Go.Proofs.YtohmhiodmaahfaaDoor
