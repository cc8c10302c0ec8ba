/- Needed patterns (plain mathematics). -/
import Derived.Test.YtohmhiodmaahfaaDoorPrM
import Derived.Test.YtohmhiodmaahfaaDoorDelM
namespace Go.Proofs.YtohmhiodmaahfaaDoor
open Go.RowKit
set_option linter.unusedVariables false

/-- how many of the first k patterns cover a row -/
def cntTo (L : List ByteArray) (r : Nat) : Nat → Nat
  | 0 => 0
  | k + 1 => cntTo L r k + (covF (sgn (L.getD k ByteArray.empty)) (r : Int)).toNat
theorem cntTo_yes {L : List ByteArray} {r k : Nat} (h : covF (sgn (L.getD k ByteArray.empty)) (r : Int) = true) : cntTo L r (k + 1) = cntTo L r k + 1 := by
  show cntTo L r k + _ = _; rw [h]; rfl
theorem cntTo_no {L : List ByteArray} {r k : Nat} (h : covF (sgn (L.getD k ByteArray.empty)) (r : Int) = false) : cntTo L r (k + 1) = cntTo L r k := by
  show cntTo L r k + _ = _; rw [h]; rfl
theorem cntTo_le (L : List ByteArray) (r k : Nat) : cntTo L r k ≤ k := by
  induction k with
  | zero => exact Nat.le_refl _
  | succ k ih =>
    cases h : covF (sgn (L.getD k ByteArray.empty)) (r : Int)
    · rw [cntTo_no h]; omega
    · rw [cntTo_yes h]; omega
/-- the rows that one of the first k patterns covers, and those that two of them cover -/
def onceN (L : List ByteArray) (M : Nat) : Nat → Nat
  | 0 => 0
  | k + 1 => onceN L M k ||| rowsF (sgn (L.getD k ByteArray.empty)) M
def againN (L : List ByteArray) (M : Nat) : Nat → Nat
  | 0 => 0
  | k + 1 => againN L M k ||| (onceN L M k &&& rowsF (sgn (L.getD k ByteArray.empty)) M)
theorem onceN_lt (L : List ByteArray) (M k : Nat) : onceN L M k < 2 ^ M := by
  induction k with
  | zero => exact Nat.two_pow_pos M
  | succ k ih => exact Nat.or_lt_two_pow ih (rowsF_lt _ _)
theorem againN_lt (L : List ByteArray) (M k : Nat) : againN L M k < 2 ^ M := by
  induction k with
  | zero => exact Nat.two_pow_pos M
  | succ k ih => exact Nat.or_lt_two_pow ih (Nat.and_lt_two_pow _ (rowsF_lt _ _))
theorem onceN_bit (L : List ByteArray) (M r k : Nat) : (onceN L M k).testBit r = (decide (r < M) && decide (1 ≤ cntTo L r k)) := by
  induction k with
  | zero => simp [onceN, cntTo]
  | succ k ih =>
    show (onceN L M k ||| _).testBit r = _
    rw [Nat.testBit_or, ih, rowsF_bit]
    cases h : covF (sgn (L.getD k ByteArray.empty)) (r : Int)
    · rw [cntTo_no h]; simp
    · rw [cntTo_yes h]
      cases decide (r < M) <;> simp
theorem againN_bit (L : List ByteArray) (M r k : Nat) : (againN L M k).testBit r = (decide (r < M) && decide (2 ≤ cntTo L r k)) := by
  induction k with
  | zero => simp [againN, cntTo]
  | succ k ih =>
    show (againN L M k ||| (onceN L M k &&& _)).testBit r = _
    rw [Nat.testBit_or, ih, Nat.testBit_and, onceN_bit, rowsF_bit]
    cases h : covF (sgn (L.getD k ByteArray.empty)) (r : Int)
    · rw [cntTo_no h]; simp
    · rw [cntTo_yes h]
      rw [Bool.eq_iff_iff]
      simp only [Bool.or_eq_true, Bool.and_eq_true, decide_eq_true_eq, and_true]
      omega
/-- the rows that just one pattern covers -/
def aloneN (L : List ByteArray) (M : Nat) : Nat := onceN L M L.length &&& (2 ^ 63 - 1 - againN L M L.length)
theorem aloneN_bit (L : List ByteArray) {M : Nat} (hM : M ≤ 32) (r : Nat) : (aloneN L M).testBit r = (decide (r < M) && decide (cntTo L r L.length = 1)) := by
  have hl := againN_lt L M L.length
  have h32 : 2 ^ M ≤ 2 ^ 32 := Nat.pow_le_pow_right (by decide) hM
  have key : ∀ j, j < 63 → (2 ^ 63 - 1 - againN L M L.length).testBit j = !(againN L M L.length).testBit j := fun j hj => by
    have := Nat.testBit_two_pow_sub_succ (x := againN L M L.length) (n := 63) (by omega) j
    rw [show 2 ^ 63 - 1 - againN L M L.length = 2 ^ 63 - (againN L M L.length + 1) by omega, this]; simp [hj]
  unfold aloneN
  rw [Nat.testBit_and, onceN_bit]
  by_cases hr : r < M
  · rw [key r (by omega), againN_bit, Bool.eq_iff_iff]
    simp only [Bool.and_eq_true, decide_eq_true_eq, Bool.not_eq_true', Bool.and_eq_false_iff, decide_eq_false_iff_not]
    omega
  · rw [decide_eq_false hr]; rfl
theorem aloneN_lt (L : List ByteArray) (M : Nat) : aloneN L M < 2 ^ M := Nat.lt_of_le_of_lt Nat.and_le_left (onceN_lt _ _ _)
theorem once_step (L : List ByteArray) {M : Nat} (hM : M ≤ 32) (k : Nat) : bits .or .i64 ((onceN L M k : Nat) : Int) ((rowsF (sgn (L.getD k ByteArray.empty)) M : Nat) : Int) = ((onceN L M (k + 1) : Nat) : Int) := by
  have h1 := onceN_lt L M k
  have h2 := rowsF_lt (sgn (L.getD k ByteArray.empty)) M
  have h32 : 2 ^ M ≤ 2 ^ 32 := Nat.pow_le_pow_right (by decide) hM
  rw [i64_or _ _ (by omega) (by omega)]; rfl
theorem again_step (L : List ByteArray) {M : Nat} (hM : M ≤ 32) (k : Nat) : bits .or .i64 ((againN L M k : Nat) : Int) (bits .and .i64 ((onceN L M k : Nat) : Int) ((rowsF (sgn (L.getD k ByteArray.empty)) M : Nat) : Int)) = ((againN L M (k + 1) : Nat) : Int) := by
  have h1 := onceN_lt L M k
  have h3 := againN_lt L M k
  have h2 := rowsF_lt (sgn (L.getD k ByteArray.empty)) M
  have h32 : 2 ^ M ≤ 2 ^ 32 := Nat.pow_le_pow_right (by decide) hM
  rw [i64_and _ _ (by omega) (by omega)]
  have h4 : onceN L M k &&& rowsF (sgn (L.getD k ByteArray.empty)) M ≤ onceN L M k := Nat.and_le_left
  rw [i64_or _ _ (by omega) (by omega)]; rfl
theorem alone_step (L : List ByteArray) {M : Nat} (hM : M ≤ 32) : bits .andNot .i64 ((onceN L M L.length : Nat) : Int) ((againN L M L.length : Nat) : Int) = ((aloneN L M : Nat) : Int) := by
  have h1 := onceN_lt L M L.length
  have h3 := againN_lt L M L.length
  have h32 : 2 ^ M ≤ 2 ^ 32 := Nat.pow_le_pow_right (by decide) hM
  rw [i64_andNot _ _ (by omega) (by omega)]; rfl
/-- does a pattern cover a row, among the first k, that just one of the patterns covers? -/
def needTo (L : List ByteArray) (f : Nat → Int) (k : Nat) : Bool := (List.range k).any fun r => decide (cntTo L r L.length = 1) && covF f (r : Int)
theorem needTo_succ (L : List ByteArray) (f : Nat → Int) (k : Nat) : needTo L f (k + 1) = (needTo L f k || (decide (cntTo L k L.length = 1) && covF f (k : Int))) := by
  unfold needTo; rw [List.range_succ, List.any_append]; simp
theorem need_bits (L : List ByteArray) (f : Nat → Int) {M : Nat} (hM : M ≤ 32) : (bits .and .i64 ((rowsF f M : Nat) : Int) ((aloneN L M : Nat) : Int) == 0) = !needTo L f M := by
  have h1 := aloneN_lt L M
  have h2 := rowsF_lt f M
  have h32 : 2 ^ M ≤ 2 ^ 32 := Nat.pow_le_pow_right (by decide) hM
  rw [i64_and _ _ (by omega) (by omega), Bool.eq_iff_iff, beq_iff_eq, Bool.not_eq_true', needTo, List.any_eq_false]
  constructor
  · intro h r hr
    have h2 : (rowsF f M &&& aloneN L M) = 0 := by omega
    have h3 := congrArg (fun z => Nat.testBit z r) h2
    simp only [Nat.testBit_and, Nat.zero_testBit, rowsF_bit, aloneN_bit L hM, List.mem_range.1 hr, decide_true, Bool.true_and] at h3
    rw [Bool.and_comm, h3]; simp
  · intro h
    have : (rowsF f M &&& aloneN L M) = 0 := by
      apply Nat.eq_of_testBit_eq
      intro r
      rw [Nat.testBit_and, rowsF_bit, aloneN_bit L hM, Nat.zero_testBit]
      by_cases hr : r < M
      · have := h r (List.mem_range.2 hr)
        simp only [Bool.not_eq_true] at this
        simp only [hr, decide_true, Bool.true_and]
        rw [Bool.and_comm]; exact this
      · simp [hr]
    omega
/-- the needed ones of a list of patterns -/
def neededL (L : List ByteArray) (M : Nat) : List ByteArray := L.filter fun s => needTo L (sgn s) M
def neededTo (L : List ByteArray) (M k : Nat) : List ByteArray := (L.take k).filter fun s => needTo L (sgn s) M
theorem neededTo_zero (L : List ByteArray) (M : Nat) : neededTo L M 0 = [] := by unfold neededTo; simp
theorem neededTo_hit {L : List ByteArray} {M k : Nat} (hk : k < L.length) (h : needTo L (sgn (L.getD k ByteArray.empty)) M = true) : neededTo L M (k + 1) = neededTo L M k ++ [L.getD k ByteArray.empty] := by
  unfold neededTo
  rw [List.getD_eq_getElem?_getD, List.getElem?_eq_getElem hk] at h ⊢
  rw [List.take_add_one, List.getElem?_eq_getElem hk, List.filter_append]
  simp only [Option.getD_some] at h ⊢
  simp [h]
theorem neededTo_miss {L : List ByteArray} {M k : Nat} (hk : k < L.length) (h : needTo L (sgn (L.getD k ByteArray.empty)) M = false) : neededTo L M (k + 1) = neededTo L M k := by
  unfold neededTo
  rw [List.getD_eq_getElem?_getD, List.getElem?_eq_getElem hk] at h
  rw [List.take_add_one, List.getElem?_eq_getElem hk, List.filter_append]
  simp only [Option.getD_some] at h
  simp [h]
theorem neededTo_all (L : List ByteArray) (M : Nat) : neededTo L M L.length = neededL L M := by unfold neededTo neededL; rw [List.take_length]
theorem neededTo_len (L : List ByteArray) (M k : Nat) : (neededTo L M k).length ≤ k := by
  unfold neededTo
  have := List.length_filter_le (fun s => needTo L (sgn s) M) (L.take k)
  rw [List.length_take] at this
  omega
/-- the kept places of the list are the needed ones -/
theorem kept_needed (L : List ByteArray) (p : Int → Bool) (M k : Nat) (hk : k ≤ L.length) (hp : ∀ i : Nat, p (i : Int) = !needTo L (sgn (L.getD i ByteArray.empty)) M) :
    (keptTo p (fun i => (i : Int)) k).map (fun c => L.getD c.toNat ByteArray.empty) = neededTo L M k := by
  induction k with
  | zero => rw [neededTo_zero]; rfl
  | succ k ih =>
    have ih := ih (by omega)
    cases h : needTo L (sgn (L.getD k ByteArray.empty)) M
    · rw [keptTo_skip (by rw [hp, h]; rfl), neededTo_miss (by omega) h, ih]
    · rw [keptTo_more (by rw [hp, h]; rfl), neededTo_hit (by omega) h, List.map_append, ih]
      simp

end Go.Proofs.YtohmhiodmaahfaaDoor
